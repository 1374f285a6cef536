/-
  The specification's Ranked and Owner.
  The specification's Ranked, Owner and Moved, whatever they are given.
-/
import Derived.Test.YtdbeoloonoodkaaDoorG11
namespace Go.Proofs.YtdbeoloonoodkaaDoor
open Go.RowKit Go.Sort Ow
set_option linter.unusedVariables false
set_option linter.unusedSimpArgs false

theorem specWgI (s : Int) (key : ByteArray) (w : World) (hs : 0 ≤ s ∧ s ≤ 99) (hk : key.size ≤ 1048576) :
    Calls Tryd.prog 47 #[.int .i64 s, .string key] w fun e w' => e = .returned (.int .i64 (wgV key s)) ∧ Below w.heap.size w w' := by
  obtain ⟨n, rfl⟩ : ∃ n : Nat, s = (n : Int) := ⟨s.toNat, by omega⟩
  have HR : (wgN n key : Int) = wgV key (n : Int) := by unfold wgV; rw [if_pos (inS_iff.2 hs), Int.toNat_natCast]
  rw [← HR]
  exact specWgN n key w (by omega) hk
theorem belDrew {B : Nat} {w w' : World} (h : Below B w w') : Below B w w'.drew := ⟨h.os, h.tape, h.output, h.size, h.block⟩
set_option maxRecDepth 100000 in
set_option maxHeartbeats 4000000 in
theorem specRnkIn (v : Value) (l : List Int) (key : ByteArray) (w : World) (h : Sls intE w v l) (hok : SrvOk l) (hk : key.size ≤ 1048576) :
    Calls Tryd.prog 17 #[v, .string key] w fun e w' => ∃ u, e = .returned u ∧ OwnsN w' w.heap.size u (rnk (wgV key) l) ∧ Below w.heap.size w w' := by
  have hT : srvOk l = true := srvOk_iff.2 hok
  obtain ⟨a, cap, hv, h1, h2, h3⟩ := h.one
  subst hv
  have HV : Hid (Sls intE w (.slice a l.length cap) l) := h
  have H2 : Hid (cap ≤ maxLen) := h2
  have HI : Hid (∀ x ∈ l, 0 ≤ x ∧ x ≤ 99) := hok.inn
  have hl9 := hok.len
  have hsv := fun W hW => specSrvs (.slice a l.length cap) l W hW
  rw [hT] at hsv
  obtain ⟨g, q, rfl, hg, hc⟩ := h3 (by have := hok.pos; omega)
  have HC : Hid (∀ j (hj : j < l.length), w.cell? ⟨g, q + j, none⟩ = some (.int .i64 l[j])) := hc
  have B0 : Below w.heap.size w (w.alloc (.cells #[] 2)) := (Below.refl _ w).alloc (Nat.le_refl _) _
  have HB0 : Hid (Below w.heap.size w (w.alloc (.cells #[] 2))) := B0
  have HO0 : Hid (OwnsN (w.alloc (.cells #[] 2)) w.heap.size (.slice (some ⟨w.heap.size, 0, none⟩) 0 0) []) := (show Hid _ from OwnsE.born (E := intE) (ty := 2) w)
  clear h h2 h3 hc hok B0
  go_enter Tryd.func17, Tryd.ntmps17
  go_wp2_with fail
  refine (hsv _ (HV.out.kept HB0.out)).mono ?_
  rintro e w1 ⟨rfl, hb1⟩
  have B1 : Hid (Below w.heap.size w w1) := (show Hid _ from pastO HB0.out hb1)
  have O1 : Hid (OwnsN w1 w.heap.size (.slice (some ⟨w.heap.size, 0, none⟩) 0 0) []) := HO0.out.kept hb1
  clear hb1 HB0 HO0 hsv hT
  go_wp2_with fail
  go_loopw [5, 6] (fun s i wr => ∃ (k sg sc : Nat), k ≤ l.length ∧ i = .int .i64 k ∧ s = .slice (some ⟨sg, 0, none⟩) (rnk (wgV key) (l.take k)).length sc ∧ Hid (OwnsN wr w.heap.size (.slice (some ⟨sg, 0, none⟩) (rnk (wgV key) (l.take k)).length sc) (rnk (wgV key) (l.take k))) ∧ Hid (Below w.heap.size w wr)) (fun _ i _ => l.length - (intOf i).toNat)
  case atStart => exact ⟨0, _, _, Nat.zero_le _, rfl, rfl, O1, B1⟩
  case round =>
    clear O1 B1
    obtain ⟨k, sg, sc, hk', rfl, rfl, ho, hb⟩ := hrel
    by_cases hlt : k < l.length
    · obtain ⟨wo, rfl⟩ : ∃ z, z = wr := ⟨wr, rfl⟩
      have HX : Hid (∀ W, Below w.heap.size w W → W.cell? ⟨g, q + k, none⟩ = some (.int .i64 l[k])) := fun W hW => (hW.cell (p := ⟨g, q + k, none⟩) hg).trans (HC.out k hlt)
      have HSN : Hid (rnk (wgV key) (l.take (k + 1)) = ins (wgV key) l[k] (rnk (wgV key) (l.take k))) := rnk_take (wgV key) l k hlt
      have hx9 := HI.out l[k] (List.getElem_mem hlt)
      have hsl : (rnk (wgV key) (l.take k)).length ≤ 9 := by rw [rnk_length, List.length_take]; omega
      have HR9 : Hid (∀ y ∈ rnk (wgV key) (l.take k), 0 ≤ y ∧ y ≤ 99) := (show ∀ _, _ from fun y hy => HI.out y (List.mem_of_mem_take ((rnk_perm (wgV key) (l.take k)).mem_iff.1 hy)))
      generalize l[k] = x at HX HSN hx9
      generalize rnk (wgV key) (l.take k) = R at ho HSN hsl HR9
      have hki : (k : Int) < (l.length : Int) := by omega
      have hbz := hb.out.size
      go_wp2_with fail
      go_loopw [7] (fun j wr => ∃ jj : Nat, jj ≤ R.length ∧ j = .int .i64 jj ∧ Hid (∀ m (hm : m < R.length), m < jj → wgV key x ≤ wgV key R[m]) ∧ Hid (Below wo.heap.size wo wr)) (fun j _ => R.length - (intOf j).toNat)
      case atStart => exact ⟨0, Nat.zero_le _, rfl, (show ∀ _, _ from fun m hm h => by omega), (show Hid _ from Below.refl _ _)⟩
      case round =>
        obtain ⟨j, hj, rfl, hge, hb2⟩ := hrel
        obtain ⟨wi, rfl⟩ : ∃ z, z = wr := ⟨wr, rfl⟩
        have B2 : Hid (Below w.heap.size w wi) := (show Hid _ from hb.out.trans (hb2.out.mono hbz))
        have O2 : Hid (OwnsN wi w.heap.size (.slice (some ⟨sg, 0, none⟩) R.length sc) R) := ho.out.kept hb2.out
        obtain ⟨B, HBt, HBf⟩ : ∃ B : Bool, Hid (B = true → ∃ h : j < R.length, wgV key x ≤ wgV key R[j]) ∧ Hid (B = false → ∀ h : j < R.length, wgV key R[j] < wgV key x) := by
          by_cases h : ∃ h : j < R.length, wgV key x ≤ wgV key R[j]
          · exact ⟨true, (show Hid _ from fun _ => h), (show Hid _ from fun e => by cases e)⟩
          · exact ⟨false, (show Hid _ from fun e => by cases e), (show Hid _ from fun _ hj => by
              refine Int.not_le.1 fun hle => h ⟨hj, hle⟩)⟩
        go_upto_region 8 with fail
        go_cut [38] from 20 to 38 (fun s wx => s = .bool B ∧ Hid (Below wi.heap.size wi wx))
        case first =>
          by_cases hlj : j < R.length
          · have hji : (j : Int) < (R.length : Int) := by omega
            have c1 := HX.out _ B2.out
            have d1 := ownsN_at O2.out j hlj
            have hy9 := HR9.out R[j] (List.getElem_mem hlj)
            have hB : B = decide (wgV key x ≤ wgV key R[j]) := by
              cases B with
              | true => obtain ⟨_, h⟩ := HBt.out rfl; exact (decide_eq_true h).symm
              | false => have h := HBf.out rfl hlj; exact (decide_eq_false (by omega)).symm
            have k1 := cell_regrown c1
            have k2 := cell_regrown d1
            generalize R[j] = y at d1 k2 hy9 hB
            have j1 : ∀ d os, Calls Tryd.prog 47 #[.int .i64 x, .string key] (grow (redrawn wi d) os) fun e w'' => e = .returned (.int .i64 (wgV key x)) ∧ ∃ p : Regrown, w'' = grow (redrawn wi p.d) p.os := fun d os => Calls.regrown_of (specWgI x key _ hx9 hk)
            have j2 : ∀ d os, Calls Tryd.prog 47 #[.int .i64 y, .string key] (grow (redrawn wi d) os) fun e w'' => e = .returned (.int .i64 (wgV key y)) ∧ ∃ p : Regrown, w'' = grow (redrawn wi p.d) p.os := fun d os => Calls.regrown_of (specWgI y key _ hy9 hk)
            generalize wgV key x = wx1 at j1 hB
            generalize wgV key y = wy1 at j2 hB
            subst hB
            clear c1 d1
            refine wp_region_quiet_below (by kernel_rfl) (by kernel_rfl) ?_
            repeat (go_big_quiet_step (first | with_reducible exact j2 _ _ | with_reducible exact j1 _ _))
            refine wpQuiet_nil ?_
            intro _ hw'
            obtain ⟨⟨dq, osq⟩, hw''⟩ := hw'
            subst hw''
            have BN : Hid (Below wi.heap.size wi (grow (redrawn wi dq) osq)) := (show Hid _ from below_regrown wi dq osq)
            generalize grow (redrawn wi dq) osq = wn at BN ⊢
            go_wp2_with fail
            go_meet
            exact ⟨rfl, BN⟩
          · have hji : ¬ (j : Int) < (R.length : Int) := by omega
            have hB : B = false := by
              cases B with
              | true => obtain ⟨h, _⟩ := HBt.out rfl; exact absurd h hlj
              | false => rfl
            subst hB
            refine wp_region_quiet_below (by kernel_rfl) (by kernel_rfl) ?_
            repeat (go_big_quiet_step (fail))
            refine wpQuiet_nil ?_
            intro _ hw'
            obtain ⟨⟨dq, osq⟩, hw''⟩ := hw'
            subst hw''
            have BN : Hid (Below wi.heap.size wi (grow (redrawn wi dq) osq)) := (show Hid _ from below_regrown wi dq osq)
            generalize grow (redrawn wi dq) osq = wn at BN ⊢
            go_wp2_with fail
            go_meet
            exact ⟨rfl, BN⟩
        case rest =>
          obtain ⟨rfl, BN⟩ := hcut
          obtain ⟨wn, rfl⟩ : ∃ z, z = wc := ⟨wc, rfl⟩
          have B3 : Hid (Below w.heap.size w wn) := (show Hid _ from pastO B2.out BN.out)
          have b3 : Hid (Below wo.heap.size wo wn) := (show Hid _ from pastO hb2.out BN.out)
          have O3 : Hid (OwnsN wn w.heap.size (.slice (some ⟨sg, 0, none⟩) R.length sc) R) := O2.out.kept BN.out
          clear O2 B2 BN hb2
          cases B with
          | true =>
            obtain ⟨hlj, hle⟩ := HBt.out rfl
            have HG : Hid (∀ m (hm : m < R.length), m < j + 1 → wgV key x ≤ wgV key R[m]) := (show ∀ _, _ from fun m hm h => by
              by_cases e : m = j
              · subst e; exact hle
              · exact hge.out m hm (by omega))
            clear hle
            go_wp2
            go_roundw
            case rel => exact ⟨j + 1, by omega, by go_num, HG, b3⟩
            case measure => simp [intOf]; omega
          | false =>
            have HE : Hid (rnk (wgV key) (l.take (k + 1)) = R.take j ++ [x] ++ R.drop j) := by
              show _ = _
              rw [HSN.out, ins_at (wgV key) x R j hj (fun m hm h => hge.out m hm h) (fun h => HBf.out rfl h)]
              simp
            obtain ⟨A, hA, hAn⟩ := cutN O3.out rfl (k := j) hj
            have hAH : Hid _ := hAn
            have hSc : R.length ≤ sc := by obtain ⟨_, _, e, h4, _⟩ := O3.out.form; injection e with _ _ e3; omega
            have hm : (R.drop j).length = R.length - j := List.length_drop
            have hji : (j : Int) ≤ (R.length : Int) := by omega
            have hjs : (j : Int) ≤ (sc : Int) := by omega
            have hsg := O3.out.under sg rfl
            have hsg2 := O3.out.from sg rfl
            clear hAn HBt HBf hge HSN hb b3
            go_wp2_with (at_builtin; refine wpList_rowE (E := intE) _ rfl (.tmp 41) (.tmp 44) 24 2 (.int .i64 0) 8 Tryd.underlying24 Tryd.infoN2 rfl rfl wn.heap.size (.slice (some ⟨wn.heap.size, 0, Option.none⟩) 0 0) [] rfl (OwnsE.born wn) A (sc - j) (R.drop j) (by simp [Act.eval, hm]) (hAH.out _ (Below.heap_alloc wn _ sg hsg)) (by rw [hm]; simp only [List.length_nil]; unfold maxLen; omega) (by rw [hm]; simp only [List.length_nil]; omega) (by simp) ?_; intro v7 w7 ho7 hg7 hn7)
            have hm2 : ([] ++ R.drop j : List Int) = R.drop j := List.nil_append _
            rw [hm2] at ho7
            have hv7 : ∃ rg rc, v7 = .slice (some ⟨rg, 0, none⟩) (R.length - j) rc := by
              obtain ⟨a7, c7, e7, h71, _, hor⟩ := ho7.form
              rw [hm] at e7 h71
              rcases hor with ⟨rfl, rfl⟩ | ⟨rg, rfl⟩
              · exfalso
                have hz : R.length - j = 0 := by omega
                rw [hz] at e7
                have := (hn7.1 e7).1
                injection this with e _ _
                cases e
              · exact ⟨rg, c7, e7⟩
            obtain ⟨rg, rc, rfl⟩ := hv7
            have hrg := ho7.from rg rfl
            have hsz := hg7.size
            simp at hsz
            have O7 : Hid (OwnsN w7 wn.heap.size (.slice (some ⟨rg, 0, none⟩) (R.length - j) rc) (R.drop j)) := ho7
            have B7 : Hid (Below wn.heap.size wn w7) := (show Hid _ from belowE ((Below.refl _ wn).alloc (Nat.le_refl _) _) hg7 (by simp) (fun z hz => by simp [Value.ownBlock] at hz; omega))
            have ht : (R.take j).length = j := by rw [List.length_take]; omega
            have OL : Hid (OwnsN w7 w.heap.size (.slice (some ⟨sg, 0, none⟩) j sc) (R.take j)) := (show Hid _ from (O3.out.kept B7.out).less rfl j hj)
            have BW : Hid (Below w.heap.size w w7) := (show Hid _ from pastO B3.out B7.out)
            have c7 := HX.out _ BW.out
            have hw7 := BW.out.size
            clear hg7 hn7 ho7 O3 B3 B7 hA hAH hm2
            go_wp2_with fail
            go_region_law (first
              | (refine step_rowE (E := intE) rfl (.tmp 48) (.tmp 53) 24 2 (.int .i64 0) 8 Tryd.underlying24 Tryd.infoN2 rfl rfl w.heap.size (.slice (some ⟨sg, 0, none⟩) j sc) (R.take j) (by simp [Act.eval]) (OwnsE.alloc (by exact OL.out) _) ⟨w7.heap.size, 0, none⟩ 1 [x] (by simp [Act.eval]) (fresh_cell _ x #[.int .i64 x] 2 rfl) (by rw [ht]; unfold maxLen; simp; omega) (by rw [ht]; simp; omega) (by simp; omega) ?_; intro v8 w8 ho8 hg8 hn8)
              | (refine step_rowE (E := intE) rfl (.tmp 54) (.tmp 55) 24 2 (.int .i64 0) 8 Tryd.underlying24 Tryd.infoN2 rfl rfl w.heap.size v8 (R.take j ++ [x]) (by simp [Act.eval]) ho8 ⟨rg, 0, none⟩ rc (R.drop j) (by simp [Act.eval, hm]) (by exact fun i u hu => World.ownsRow.cells (OwnsE.grown (OwnsE.drew (OwnsE.alloc O7.out (.cells #[.int .i64 x] 2))) hg8 (fun z hz e => by simp [Value.ownBlock] at hz e; omega)) (g := rg) rfl i u hu) (by rw [List.length_append, ht, hm]; unfold maxLen; simp; omega) (by rw [List.length_append, ht, hm]; simp; omega) (by have := hg8.size; simp at this; omega) ?_; intro v9 w9 ho9 hg9 hn9))
            have hl9' : (R.take j ++ [x] ++ R.drop j).length = R.length + 1 := by rw [List.length_append, List.length_append, ht, hm]; simp; omega
            obtain ⟨g9, c9, rfl⟩ : ∃ g9 c9, v9 = .slice (some ⟨g9, 0, none⟩) (R.length + 1) c9 := by
              obtain ⟨a9, c9, e9, _⟩ := ho9.form
              subst e9
              obtain ⟨g9, e⟩ := ownsN_some ho9 (by omega)
              exact ⟨g9, c9, by rw [e, hl9']⟩
            have HO : Hid (OwnsN w9 w.heap.size (.slice (some ⟨g9, 0, none⟩) (R.length + 1) c9) (R.take j ++ [x] ++ R.drop j)) := ho9
            have HB : Hid (Below w.heap.size w w9) := by
              have e1 : Below w.heap.size w w8 := belowE (BW.out.trans (belDrew ((Below.refl _ w7).alloc (by omega) _))) hg8 (by simp; omega) (fun z hz => by simp [Value.ownBlock] at hz; omega)
              exact (show Hid _ from belowE e1 hg9 e1.size (OwnsE.from ho8))
            clear ho8 hg8 hn8 ho9 hg9 hn9 O7 OL BW c7
            go_wp2
            go_roundw
            case rel => exact ⟨k + 1, g9, c9, by omega, by go_num, by rw [HE.out, hl9'], by rw [HE.out, hl9']; exact HO, HB⟩
            case measure => simp [intOf]; omega
    · obtain rfl : k = l.length := by omega
      rw [List.take_of_length_le (Nat.le_refl _)] at ho ⊢
      go_wp2
      go_ret
      exact ⟨_, rfl, ho.out, hb.out⟩
end Go.Proofs.YtdbeoloonoodkaaDoor
namespace Go.Proofs.YtdbeoloonoodkaaDoor
open Go.RowKit Go.Sort Ow
set_option linter.unusedVariables false
set_option linter.unusedSimpArgs false

theorem specRnk (v : Value) (l : List Int) (key : ByteArray) (w : World) (h : Sls intE w v l) (hk : key.size ≤ 1048576) :
    Calls Tryd.prog 17 #[v, .string key] w fun e w' => ∃ u, e = .returned u ∧ OwnsN w' w.heap.size u (rnkV l key) ∧ Below w.heap.size w w' := by
  cases hT : srvOk l with
  | true =>
    have e : rnkV l key = rnk (wgV key) l := by unfold rnkV; rw [if_pos hT]
    rw [e]
    exact specRnkIn v l key w h (srvOk_iff.1 hT) hk
  | false =>
    have HR : Hid (rnkV l key = []) := by show _ = _; unfold rnkV; rw [if_neg (by simp [hT])]
    have B0 : Below w.heap.size w (w.alloc (.cells #[] 2)) := (Below.refl _ w).alloc (Nat.le_refl _) _
    have HB0 : Hid (Below w.heap.size w (w.alloc (.cells #[] 2))) := B0
    have hsv := specSrvs v l _ (h.kept B0)
    rw [hT] at hsv
    obtain ⟨a, cap, rfl, _⟩ := h.one
    clear h B0
    go_enter Tryd.func17, Tryd.ntmps17
    go_wp2_with fail
    refine hsv.mono ?_
    rintro e w1 ⟨rfl, hb1⟩
    have B1 : Hid (Below w.heap.size w w1) := (show Hid _ from pastO HB0.out hb1)
    have O1 : Hid (OwnsN w1 w.heap.size (.slice (some ⟨w.heap.size, 0, none⟩) 0 0) []) := (show Hid _ from (OwnsE.born (E := intE) (ty := 2) w).kept hb1)
    clear hb1 HB0 hsv
    go_wp2
    go_ret
    exact ⟨_, rfl, by rw [HR.out]; exact O1.out, B1.out⟩
theorem rnkV_len (l : List Int) (key : ByteArray) : (rnkV l key).length ≤ 9 := by
  unfold rnkV
  split
  · rename_i h
    rw [rnk_length]
    exact (srvOk_iff.1 h).len
  · exact Nat.zero_le _
theorem specOwn (v : Value) (l : List Int) (key : ByteArray) (w : World) (h : Sls intE w v l) (hk : key.size ≤ 1048576) :
    Calls Tryd.prog 18 #[v, .string key] w fun e w' => e = .returned (.int .i64 (ownV l key)) ∧ Below w.heap.size w w' := by
  have hR := fun W hW => specRnk v l key W hW hk
  have HE : Hid (∀ R, rnkV l key = R → ownV l key = R.headD (-1)) := (show ∀ _, _ from fun R e => by unfold ownV; rw [e])
  have hl9 := rnkV_len l key
  generalize rnkV l key = R at hR HE hl9
  obtain ⟨a, cap, rfl, _⟩ := h.one
  have HV : Hid (Sls intE w (.slice a l.length cap) l) := h
  clear h
  go_enter Tryd.func18, Tryd.ntmps18
  go_wp2_with fail
  refine (hR _ HV.out).mono ?_
  rintro e w1 ⟨u, rfl, ho, hb⟩
  have HB : Hid (Below w.heap.size w w1) := hb
  obtain ⟨a1, c1, rfl, hf1, hf2, hf3⟩ := ho.form
  clear hR hb
  cases R with
  | nil =>
    clear ho hf1 hf2 hf3
    simp only [List.length_nil]
    go_wp2
    go_ret
    exact ⟨congrArg (fun z => Ending.returned (.int .i64 z)) (HE.out [] rfl).symm, HB.out⟩
  | cons x t =>
    obtain ⟨g, rfl⟩ := ownsN_some ho (by simp)
    have c0 := ownsN_at ho 0 (by simp)
    simp only [List.getElem_cons_zero] at c0
    have hn : ¬ ((x :: t).length = 0) := by simp
    have hni : (0 : Int) < ((x :: t).length : Int) := by simp only [List.length_cons]; omega
    generalize (x :: t).length = n at hn hni hf1 hl9 ⊢
    clear ho hf1 hf2 hf3
    go_wp2
    go_ret
    exact ⟨congrArg (fun z => Ending.returned (.int .i64 z)) (HE.out (x :: t) rfl).symm, HB.out⟩
/-- One number appended, and where the new row lies. -/
theorem wpList_pushNa {ops : Array Oper} {rest : List Oper} {o : Oper} {a : Act} {Q : Exit → Act → World → Prop} (w : World) (hgd : o.guard = none) (s x : Operand)
    (ho : o.op = .call { callee := .builtin .append, args := #[s, x], argTypes := #[24, 24] }) (B g n cap : Nat) (l : List Int) (c : Int) (hs : a.eval s = .slice (some ⟨g, 0, none⟩) n cap) (hown : OwnsN w B (.slice (some ⟨g, 0, none⟩) n cap) l)
    (hx : a.eval x = .slice (some ⟨w.heap.size, 0, none⟩) 1 1) (hlen : l.length ≤ 1100000) (hB : B ≤ w.heap.size)
    (h : ∀ g' cap' w', OwnsN w' B (.slice (some ⟨g', 0, none⟩) (l.length + 1) cap') (l ++ [c]) → (g' = g ∨ w.heap.size < g') → w.grownBy w' (some g) → wpList Tryd.prog ops Q rest (a.put o.dst (.slice (some ⟨g', 0, none⟩) (l.length + 1) cap')) w') :
    wpList Tryd.prog ops Q (o :: rest) a (w.alloc (.cells #[.int .i64 c] 2)) := by
  refine wpList_rowE_at (E := intE) _ hgd s x 24 2 (.int .i64 0) 8 Tryd.underlying24 Tryd.infoN2 rfl ho B _ l hs (OwnsE.alloc hown _) ⟨w.heap.size, 0, none⟩ 1 [c] hx (fresh_cell w c #[.int .i64 c] 2 rfl) (by unfold maxLen; simp; omega) (by simp; omega) (by simp; omega) ?_
  intro v' w' h1 h2 h3 h4
  obtain ⟨g', c', rfl, h5, h6, h7⟩ := OwnsE.moved h1 (by simp) h4
  have el : (l ++ [c]).length = l.length + 1 := by simp
  rw [el] at h1 ⊢
  refine h g' c' w' h1 (by simp at h5; omega) ⟨h2.os, h2.tape, h2.output, ?_, ?_⟩
  · have := h2.size
    simp at this
    omega
  · intro k hk hne
    rw [h2.block k (by simp; omega) hne]
    exact Below.heap_alloc _ _ _ hk
theorem Sls.txO {w : World} {v : Value} {l : List ByteArray} (h : Sls txtE w v l) : ∃ a cap, v = .slice a l.length cap ∧ l.length ≤ cap ∧ cap ≤ maxLen ∧ (0 < l.length → ∃ g o, a = some ⟨g, o, Option.none⟩ ∧ g < w.heap.size ∧
    ∀ j (hj : j < l.length), w.cell? ⟨g, o + j, Option.none⟩ = some (.string l[j])) := by
  obtain ⟨a, cap, rfl, h1, h2, h3⟩ := h
  refine ⟨a, cap, rfl, h1, h2, fun h0 => ?_⟩
  obtain ⟨g, o, rfl, hg, hc⟩ := h3 h0
  refine ⟨g, o, rfl, hg, fun j hj => hc j _ ?_⟩
  have := cellsE_at txtE l j hj 0 (by decide)
  rw [show j * txtE.k + 0 = j from by show j * 1 + 0 = j; omega] at this
  exact this
/-- The specification's Moved where nothing moves, for something is not as told. -/
theorem movOk_no1 {l : List Int} {z : Int} {n : Nat} (h : srvOk l = false) : movOk l z n = false := by unfold movOk; rw [h]; rfl
theorem movOk_no2 {l : List Int} {z : Int} {n : Nat} (h : (gon l z).length = l.length) : movOk l z n = false := by unfold movOk; rw [h]; simp
theorem movOk_no3 {l : List Int} {z : Int} {n : Nat} (h : (gon l z).length < 1) : movOk l z n = false := by unfold movOk; rw [decide_eq_false (p := 1 ≤ _) (by omega)]; simp
theorem movOk_no4 {l : List Int} {z : Int} {n : Nat} (h : 100 < n) : movOk l z n = false := by unfold movOk; rw [decide_eq_false (p := n ≤ 100) (by omega)]; simp
theorem movOk_yes {l : List Int} {z : Int} {n : Nat} (h1 : srvOk l = true) (h2 : ¬ (gon l z).length = l.length) (h3 : 1 ≤ (gon l z).length) (h4 : n ≤ 100) : movOk l z n = true := by
  unfold movOk; rw [h1, decide_eq_false h2, decide_eq_true h3, decide_eq_true h4]; rfl
set_option maxRecDepth 100000 in
set_option maxHeartbeats 2000000 in
theorem specMov (v : Value) (l : List Int) (z : Int) (vk : Value) (keys : List ByteArray) (w : World) (h : Sls intE w v l) (hl : l.length ≤ 1048576) (hkk : Sls txtE w vk keys) (hkl : keys.length ≤ 1048576) (hks : ∀ x ∈ keys, x.size ≤ 1048576) :
    Calls Tryd.prog 19 #[v, .int .i64 z, vk] w fun e w' => ∃ u, e = .returned u ∧ OwnsN w' w.heap.size u (movV l z keys) ∧ Below w.heap.size w w' := by
  have B0 : Below w.heap.size w (w.alloc (.cells #[] 2)) := (Below.refl _ w).alloc (Nat.le_refl _) _
  have HB0 : Hid (Below w.heap.size w (w.alloc (.cells #[] 2))) := B0
  have hgn := specGon v l z _ (h.kept B0) hl
  have hsv := fun W hW => specSrvs v l W hW
  have hOw := fun W key hW (hk : key.size ≤ 1048576) => specOwn v l key W hW hk
  obtain ⟨a, cap, rfl, _⟩ := h.one
  obtain ⟨ak, ck, rfl, q1, q2, q3⟩ := hkk.txO
  have HV : Hid (Sls intE w (.slice a l.length cap) l) := h
  have HK : Hid (Sls txtE w (.slice ak keys.length ck) keys) := hkk
  have HQ : Hid (0 < keys.length → ∃ g o, ak = some ⟨g, o, Option.none⟩ ∧ g < w.heap.size ∧ ∀ j (hj : j < keys.length), w.cell? ⟨g, o + j, Option.none⟩ = some (.string keys[j])) := q3
  have HS : Hid (∀ x ∈ keys, x.size ≤ 1048576) := hks
  have hgl := gon_len l z
  clear h B0 hkk q3 hks q2
  go_enter Tryd.func19, Tryd.ntmps19
  go_wp2_with fail
  refine hgn.mono ?_
  rintro e w1 ⟨u, rfl, ho, hb1⟩
  obtain ⟨au, cu, rfl, _⟩ := ho.form
  have B1 : Hid (Below w.heap.size w w1) := (show Hid _ from pastO HB0.out hb1)
  have O1 : Hid (OwnsN w1 w.heap.size (.slice (some ⟨w.heap.size, 0, none⟩) 0 0) []) := (show Hid _ from (OwnsE.born (E := intE) (ty := 2) w).kept hb1)
  have U1 : Hid (OwnsN w1 (w.heap.size + 1) (.slice au (gon l z).length cu) (gon l z)) := (show Hid _ from ho.low (by simp))
  have HE : Hid (∀ G, gon l z = G → movOk l z keys.length = (srvOk l && (!decide (G.length = l.length) && (decide (1 ≤ G.length) && decide (keys.length ≤ 100))))) := (show ∀ _, _ from fun G e => by unfold movOk; rw [e])
  clear hb1 HB0 hgn ho HE
  go_upto_region 3 with fail
  obtain ⟨M, hM⟩ : ∃ M, M = movOk l z keys.length := ⟨_, rfl⟩
  have HM : Hid (M = movOk l z keys.length) := hM
  clear hM
  go_cut [33] from 14 to 33 (fun s wx => s = .bool (!M) ∧ Hid (Below w1.heap.size w1 wx))
  case first =>
    go_wp2_with fail
    refine (hsv _ (HV.out.kept B1.out)).mono ?_
    rintro e w2 ⟨rfl, hb2⟩
    have B2 : Hid (Below w1.heap.size w1 w2) := hb2
    clear hb2 B1 O1 U1 HV HK HQ HS hsv hOw
    cases hT : srvOk l with
    | false =>
      obtain rfl : M = false := by rw [HM.out]; exact movOk_no1 hT
      clear hT
      go_wp2_with fail
      go_meet
      exact ⟨rfl, B2⟩
    | true =>
      by_cases h2 : (gon l z).length = l.length
      · obtain rfl : M = false := by rw [HM.out]; exact movOk_no2 h2
        have e2 : (((gon l z).length : Int) == (l.length : Int)) = true := by rw [h2]; simp
        have HH : Hid _ := h2
        clear hT h2
        go_wp2_with fail
        go_meet
        exact ⟨rfl, B2⟩
      · have e2 : (((gon l z).length : Int) == (l.length : Int)) = false := by rw [beq_eq_false_iff_ne]; omega
        by_cases h3 : (gon l z).length < 1
        · obtain rfl : M = false := by rw [HM.out]; exact movOk_no3 h3
          have h3i : ((gon l z).length : Int) < 1 := by omega
          clear hT h2
          go_wp2_with fail
          go_meet
          exact ⟨rfl, B2⟩
        · have h3i : ¬ ((gon l z).length : Int) < 1 := by omega
          by_cases h4 : 100 < keys.length
          · obtain rfl : M = false := by rw [HM.out]; exact movOk_no4 h4
            have h4i : (100 : Int) < (keys.length : Int) := by omega
            clear hT
            go_wp2_with fail
            go_meet
            exact ⟨rfl, B2⟩
          · obtain rfl : M = true := by rw [HM.out]; exact movOk_yes hT h2 (by omega) (by omega)
            have h4i : ¬ (100 : Int) < (keys.length : Int) := by omega
            clear hT
            go_wp2_with fail
            go_meet
            exact ⟨by rw [decide_eq_false (p := ((gon l z).length : Int) < 1) (by omega), decide_eq_false (p := (100 : Int) < (keys.length : Int)) (by omega)]; rfl, B2⟩
  case rest =>
    obtain ⟨rfl, BN⟩ := hcut
    obtain ⟨w2, rfl⟩ : ∃ x, x = wc := ⟨wc, rfl⟩
    have B2 : Hid (Below w.heap.size w w2) := (show Hid _ from pastO B1.out BN.out)
    have O2 : Hid (OwnsN w2 w.heap.size (.slice (some ⟨w.heap.size, 0, none⟩) 0 0) []) := O1.out.kept BN.out
    have U2 : Hid (OwnsN w2 (w.heap.size + 1) (.slice au (gon l z).length cu) (gon l z)) := U1.out.kept BN.out
    clear BN B1 O1 U1
    cases M with
    | false =>
      have HR : Hid (movV l z keys = []) := by show _ = _; unfold movV; rw [← HM.out]; rfl
      go_wp2
      go_ret
      exact ⟨_, rfl, by rw [HR.out]; exact O2.out, B2.out⟩
    | true =>
      have HR : Hid (movV l z keys = movL l z keys keys.length) := by show _ = _; unfold movV; rw [← HM.out]; rfl
      have hw2 := B2.out.size
      have h1s : w.heap.size < w2.heap.size := O2.out.under w.heap.size rfl
      have hUf := U2.out.from
      have hUu := U2.out.under
      have U2s : Hid (Sls intE w2 (.slice au (gon l z).length cu) (gon l z)) := U2.out.sls
      have HUB : Hid (∀ b, (Value.slice au (gon l z).length cu).ownBlock = some b → w.heap.size + 1 ≤ b ∧ b < w2.heap.size) := (show ∀ _, _ from fun b hb => ⟨hUf b hb, hUu b hb⟩)
      have hOu := fun W key hW (hk : key.size ≤ 1048576) => specOwn (.slice au (gon l z).length cu) (gon l z) key W hW hk
      have hk100 : keys.length ≤ 100 := by
        have := HM.out.symm
        unfold movOk at this
        rw [Bool.and_eq_true, Bool.and_eq_true, Bool.and_eq_true] at this
        exact of_decide_eq_true this.2.2.2
      clear U2 hUf hUu hsv HM hl hkl
      simp only [Bool.not_true]
      go_wp2_with fail
      go_loopw [7, 9] (fun s i wr => ∃ (k sg sc : Nat), k ≤ keys.length ∧ i = .int .i64 k ∧ s = .slice (some ⟨sg, 0, none⟩) (movL l z keys k).length sc ∧ (sg = w.heap.size ∨ w2.heap.size ≤ sg) ∧ Hid (OwnsN wr w.heap.size (.slice (some ⟨sg, 0, none⟩) (movL l z keys k).length sc) (movL l z keys k)) ∧ Hid (Sls intE wr (.slice au (gon l z).length cu) (gon l z)) ∧ w2.heap.size ≤ wr.heap.size ∧ Hid (Below w.heap.size w wr)) (fun _ i _ => keys.length - (intOf i).toNat)
      case atStart => exact ⟨0, _, _, Nat.zero_le _, rfl, rfl, .inl rfl, O2, U2s, Nat.le_refl _, B2⟩
      case round =>
        clear O2 U2s B2
        obtain ⟨k, sg, sc, hk, rfl, rfl, hsg, ho, hu, hw2r, hb⟩ := hrel
        by_cases hlt : k < keys.length
        · obtain ⟨gk, ok, rfl, hgk, hck⟩ := HQ.out (by omega)
          have c0 := (hb.out.cell (p := ⟨gk, ok + k, none⟩) hgk).trans (hck k hlt)
          have hks := HS.out keys[k] (List.getElem_mem hlt)
          have eg : keys.getD k ⟨#[]⟩ = keys[k] := by simp [hlt]
          have HY : Hid (¬ ownV l keys[k] = ownV (gon l z) keys[k] → movL l z keys (k + 1) = movL l z keys k ++ [(k : Int)]) := (show Hid _ from fun h => movL_yes l z keys k (by rw [eg]; exact h))
          have HN : Hid (ownV l keys[k] = ownV (gon l z) keys[k] → movL l z keys (k + 1) = movL l z keys k) := (show Hid _ from fun h => movL_no l z keys k (by rw [eg]; exact h))
          have hml := movL_length l z keys k
          have k1 := cell_regrown c0
          have j1 : ∀ d os, Calls Tryd.prog 18 #[.slice a l.length cap, .string keys[k]] (grow (redrawn wr d) os) fun e w'' => e = .returned (.int .i64 (ownV l keys[k])) ∧ ∃ p : Regrown, w'' = grow (redrawn wr p.d) p.os := fun d os => Calls.regrown_of (hOw _ _ (HV.out.kept (pastO hb.out (below_regrown wr d os))) hks)
          have j2 : ∀ d os, Calls Tryd.prog 18 #[.slice au (gon l z).length cu, .string keys[k]] (grow (redrawn wr d) os) fun e w'' => e = .returned (.int .i64 (ownV (gon l z) keys[k])) ∧ ∃ p : Regrown, w'' = grow (redrawn wr p.d) p.os := fun d os => Calls.regrown_of (hOu _ _ (hu.out.kept (below_regrown wr d os)) hks)
          generalize keys[k] = y at c0 k1 j1 j2 HY HN hks
          generalize ownV l y = o1 at j1 HY HN
          generalize ownV (gon l z) y = o2 at j2 HY HN
          generalize movL l z keys k = S at ho HY HN hml
          have hki : (k : Int) < (keys.length : Int) := by omega
          clear eg c0 hck
          go_wp2_with fail
          refine wp_region_quiet_below (by kernel_rfl) (by kernel_rfl) ?_
          repeat (go_big_quiet_step (first | with_reducible exact j1 _ _ | with_reducible exact j2 _ _))
          refine wpQuiet_nil ?_
          intro _ hw'
          obtain ⟨⟨dq, osq⟩, hw''⟩ := hw'
          subst hw''
          have hbn := below_regrown wr dq osq
          have BN : Hid (Below w.heap.size w (grow (redrawn wr dq) osq)) := (show Hid _ from pastO hb.out hbn)
          have ON : Hid (OwnsN (grow (redrawn wr dq) osq) w.heap.size (.slice (some ⟨sg, 0, none⟩) S.length sc) S) := ho.out.kept hbn
          have UN : Hid (Sls intE (grow (redrawn wr dq) osq) (.slice au (gon l z).length cu) (gon l z)) := hu.out.kept hbn
          have hwn := Nat.le_trans hw2r hbn.size
          generalize grow (redrawn wr dq) osq = wn at BN ON UN hwn ⊢
          clear hbn hb ho hu k1 j1 j2
          by_cases he : o1 = o2
          · have e1 : (o1 != o2) = false := by simp [he]
            have HP : Hid (movL l z keys (k + 1) = S) := HN.out he
            clear he HY HN
            go_wp2
            go_roundw
            case rel => exact ⟨k + 1, sg, sc, by omega, by go_num, by rw [HP.out], hsg, by rw [HP.out]; exact ON, UN, hwn, BN⟩
            case measure => simp [intOf]; omega
          · have e1 : (o1 != o2) = true := by simp [he]
            have HP : Hid (movL l z keys (k + 1) = S ++ [(k : Int)]) := HY.out he
            clear he HY HN
            go_wp2_with (at_builtin; refine wpList_pushNa _ rfl (.tmp 54) (.tmp 56) rfl w.heap.size sg S.length sc S (k : Int) rfl ON.out rfl (by omega) BN.out.size ?_; intro g4 c4 w4 ho4 hg4 hr4)
            have B4 : Hid (Below w.heap.size w w4) := (show Hid _ from belowE BN.out hr4 BN.out.size (fun b hb => by injection hb with hb; have := ON.out.from sg rfl; omega))
            have U4 : Hid (Sls intE w4 (.slice au (gon l z).length cu) (gon l z)) := (show Hid _ from UN.out.grown hr4 (fun b hb e => by have := HUB.out b hb; injection e with e; omega))
            have hz4 := hr4.size
            have el4 : (S ++ [(k : Int)]).length = S.length + 1 := by simp
            rw [← el4] at ho4
            have HO4 : Hid (OwnsN w4 w.heap.size (.slice (some ⟨g4, 0, none⟩) (S ++ [(k : Int)]).length c4) (S ++ [(k : Int)])) := ho4
            clear el4
            clear ON UN BN ho4 hr4
            go_roundw
            case rel => exact ⟨k + 1, g4, c4, by omega, by go_num, by rw [HP.out]; simp, by omega, by rw [HP.out]; exact HO4, U4, by omega, B4⟩
            case measure => simp [intOf]; omega
        · obtain rfl : k = keys.length := by omega
          go_wp2
          go_ret
          exact ⟨_, rfl, by rw [HR.out]; exact ho.out, hb.out⟩
end Go.Proofs.YtdbeoloonoodkaaDoor

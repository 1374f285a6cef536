/-
  The specification's Ranked and Owner.
-/
import Derived.Test.YtdbeoloonoodkaaDoorOwB
import Derived.Test.YtdbeoloonoodkaaDoorRomD
namespace Go.Proofs.YtdbeoloonoodkaaDoor
open Go.RowKit Go.Sort Ow
set_option linter.unusedVariables false
set_option linter.unusedSimpArgs false

theorem specWgI (s : Int) (key : ByteArray) (w : World) (hs : 0 ≤ s ∧ s ≤ 99) (hk : key.size ≤ 1048576) :
    Calls Tryd.prog 47 #[.int .i64 s, .string key] w fun e w' => e = .returned (.int .i64 (wgV key s)) ∧ Below w.heap.size w w' := by
  obtain ⟨n, rfl⟩ : ∃ n : Nat, s = (n : Int) := ⟨s.toNat, by omega⟩
  have HR : (wgN n key : Int) = wgV key (n : Int) := by unfold wgV; rw [if_pos (inS_iff.2 hs), Int.toNat_natCast]
  rw [← HR]
  exact specWgN n key w (by omega) hk
theorem wgV_in (key : ByteArray) (s : Int) : -1 ≤ wgV key s ∧ wgV key s < 2147483647 := by
  unfold wgV
  split
  · have := hshL_lt (Lib.decDigits s.toNat ++ 58 :: key.data.toList)
    unfold wgN
    omega
  · omega
theorem belDrew {B : Nat} {w w' : World} (h : Below B w w') : Below B w w'.drew := ⟨h.os, h.tape, h.output, h.size, h.block⟩
set_option maxRecDepth 100000 in
set_option maxHeartbeats 4000000 in
theorem specRnkIn (v : Value) (l : List Int) (key : ByteArray) (w : World) (h : Sls intE w v l) (hok : SrvOk l) (hk : key.size ≤ 1048576) :
    Calls Tryd.prog 17 #[v, .string key] w fun e w' => ∃ u, e = .returned u ∧ OwnsN w' w.heap.size u (rnk (wgV key) l) ∧ Below w.heap.size w w' := by
  have hT : srvOk l = true := srvOk_iff.2 hok
  obtain ⟨a, cap, hv, h1, h2, h3⟩ := h.one
  subst hv
  have HV : Hid (Sls intE w (.slice a l.length cap) l) := h
  have H2 : Hid (cap ≤ maxLen) := h2
  have HI : Hid (∀ x ∈ l, 0 ≤ x ∧ x ≤ 99) := hok.inn
  have hl9 := hok.len
  have hsv := fun W hW => specSrvs (.slice a l.length cap) l W hW
  rw [hT] at hsv
  obtain ⟨g, q, rfl, hg, hc⟩ := h3 (by have := hok.pos; omega)
  have HC : Hid (∀ j (hj : j < l.length), w.cell? ⟨g, q + j, none⟩ = some (.int .i64 l[j])) := hc
  have B0 : Below w.heap.size w (w.alloc (.cells #[] 2)) := (Below.refl _ w).alloc (Nat.le_refl _) _
  have HB0 : Hid (Below w.heap.size w (w.alloc (.cells #[] 2))) := B0
  have HO0 : Hid (OwnsN (w.alloc (.cells #[] 2)) w.heap.size (.slice (some ⟨w.heap.size, 0, none⟩) 0 0) []) := (show Hid _ from OwnsE.born (E := intE) (ty := 2) w)
  clear h h2 h3 hc hok B0
  go_enter Tryd.func17, Tryd.ntmps17
  go_wp2_with fail
  refine (hsv _ (HV.out.kept HB0.out)).mono ?_
  rintro e w1 ⟨rfl, hb1⟩
  have B1 : Hid (Below w.heap.size w w1) := (show Hid _ from pastO HB0.out hb1)
  have O1 : Hid (OwnsN w1 w.heap.size (.slice (some ⟨w.heap.size, 0, none⟩) 0 0) []) := HO0.out.kept hb1
  clear hb1 HB0 HO0 hsv hT
  go_wp2_with fail
  go_loopw [5, 6] (fun s i wr => ∃ (k sg sc : Nat), k ≤ l.length ∧ i = .int .i64 k ∧ s = .slice (some ⟨sg, 0, none⟩) (rnk (wgV key) (l.take k)).length sc ∧ Hid (OwnsN wr w.heap.size (.slice (some ⟨sg, 0, none⟩) (rnk (wgV key) (l.take k)).length sc) (rnk (wgV key) (l.take k))) ∧ Hid (Below w.heap.size w wr)) (fun _ i _ => l.length - (intOf i).toNat)
  case atStart => exact ⟨0, _, _, Nat.zero_le _, rfl, rfl, O1, B1⟩
  case round =>
    clear O1 B1
    obtain ⟨k, sg, sc, hk', rfl, rfl, ho, hb⟩ := hrel
    by_cases hlt : k < l.length
    · obtain ⟨wo, rfl⟩ : ∃ z, z = wr := ⟨wr, rfl⟩
      have HX : Hid (∀ W, Below w.heap.size w W → W.cell? ⟨g, q + k, none⟩ = some (.int .i64 l[k])) := fun W hW => (hW.cell (p := ⟨g, q + k, none⟩) hg).trans (HC.out k hlt)
      have HSN : Hid (rnk (wgV key) (l.take (k + 1)) = ins (wgV key) l[k] (rnk (wgV key) (l.take k))) := rnk_take (wgV key) l k hlt
      have hx9 := HI.out l[k] (List.getElem_mem hlt)
      have hsl : (rnk (wgV key) (l.take k)).length ≤ 9 := by rw [rnk_length, List.length_take]; omega
      have HR9 : Hid (∀ y ∈ rnk (wgV key) (l.take k), 0 ≤ y ∧ y ≤ 99) := (show ∀ _, _ from fun y hy => HI.out y (List.mem_of_mem_take ((rnk_perm (wgV key) (l.take k)).mem_iff.1 hy)))
      generalize l[k] = x at HX HSN hx9
      generalize rnk (wgV key) (l.take k) = R at ho HSN hsl HR9
      have hki : (k : Int) < (l.length : Int) := by omega
      have hbz := hb.out.size
      go_wp2_with fail
      go_loopw [7] (fun j wr => ∃ jj : Nat, jj ≤ R.length ∧ j = .int .i64 jj ∧ Hid (∀ m (hm : m < R.length), m < jj → wgV key x ≤ wgV key R[m]) ∧ Hid (Below wo.heap.size wo wr)) (fun j _ => R.length - (intOf j).toNat)
      case atStart => exact ⟨0, Nat.zero_le _, rfl, (show ∀ _, _ from fun m hm h => by omega), (show Hid _ from Below.refl _ _)⟩
      case round =>
        obtain ⟨j, hj, rfl, hge, hb2⟩ := hrel
        obtain ⟨wi, rfl⟩ : ∃ z, z = wr := ⟨wr, rfl⟩
        have B2 : Hid (Below w.heap.size w wi) := (show Hid _ from hb.out.trans (hb2.out.mono hbz))
        have O2 : Hid (OwnsN wi w.heap.size (.slice (some ⟨sg, 0, none⟩) R.length sc) R) := ho.out.kept hb2.out
        obtain ⟨B, HBt, HBf⟩ : ∃ B : Bool, Hid (B = true → ∃ h : j < R.length, wgV key x ≤ wgV key R[j]) ∧ Hid (B = false → ∀ h : j < R.length, wgV key R[j] < wgV key x) := by
          by_cases h : ∃ h : j < R.length, wgV key x ≤ wgV key R[j]
          · exact ⟨true, (show Hid _ from fun _ => h), (show Hid _ from fun e => by cases e)⟩
          · exact ⟨false, (show Hid _ from fun e => by cases e), (show Hid _ from fun _ hj => by
              refine Int.not_le.1 fun hle => h ⟨hj, hle⟩)⟩
        go_upto_region 8 with fail
        go_cut [38] from 20 to 38 (fun s wx => s = .bool B ∧ Hid (Below wi.heap.size wi wx))
        case first =>
          by_cases hlj : j < R.length
          · have hji : (j : Int) < (R.length : Int) := by omega
            have c1 := HX.out _ B2.out
            have d1 := ownsN_at O2.out j hlj
            have hy9 := HR9.out R[j] (List.getElem_mem hlj)
            have hB : B = decide (wgV key x ≤ wgV key R[j]) := by
              cases B with
              | true => obtain ⟨_, h⟩ := HBt.out rfl; exact (decide_eq_true h).symm
              | false => have h := HBf.out rfl hlj; exact (decide_eq_false (by omega)).symm
            have k1 := cell_regrown c1
            have k2 := cell_regrown d1
            generalize R[j] = y at d1 k2 hy9 hB
            have j1 : ∀ d os, Calls Tryd.prog 47 #[.int .i64 x, .string key] (grow (redrawn wi d) os) fun e w'' => e = .returned (.int .i64 (wgV key x)) ∧ ∃ p : Regrown, w'' = grow (redrawn wi p.d) p.os := fun d os => Calls.regrown_of (specWgI x key _ hx9 hk)
            have j2 : ∀ d os, Calls Tryd.prog 47 #[.int .i64 y, .string key] (grow (redrawn wi d) os) fun e w'' => e = .returned (.int .i64 (wgV key y)) ∧ ∃ p : Regrown, w'' = grow (redrawn wi p.d) p.os := fun d os => Calls.regrown_of (specWgI y key _ hy9 hk)
            generalize wgV key x = wx1 at j1 hB
            generalize wgV key y = wy1 at j2 hB
            subst hB
            clear c1 d1
            refine wp_region_quiet_below (by kernel_rfl) (by kernel_rfl) ?_
            repeat (go_big_quiet_step (first | with_reducible exact j2 _ _ | with_reducible exact j1 _ _))
            refine wpQuiet_nil ?_
            intro _ hw'
            obtain ⟨⟨dq, osq⟩, hw''⟩ := hw'
            subst hw''
            have BN : Hid (Below wi.heap.size wi (grow (redrawn wi dq) osq)) := (show Hid _ from below_regrown wi dq osq)
            generalize grow (redrawn wi dq) osq = wn at BN ⊢
            go_wp2_with fail
            go_meet
            exact ⟨rfl, BN⟩
          · have hji : ¬ (j : Int) < (R.length : Int) := by omega
            have hB : B = false := by
              cases B with
              | true => obtain ⟨h, _⟩ := HBt.out rfl; exact absurd h hlj
              | false => rfl
            subst hB
            refine wp_region_quiet_below (by kernel_rfl) (by kernel_rfl) ?_
            repeat (go_big_quiet_step (fail))
            refine wpQuiet_nil ?_
            intro _ hw'
            obtain ⟨⟨dq, osq⟩, hw''⟩ := hw'
            subst hw''
            have BN : Hid (Below wi.heap.size wi (grow (redrawn wi dq) osq)) := (show Hid _ from below_regrown wi dq osq)
            generalize grow (redrawn wi dq) osq = wn at BN ⊢
            go_wp2_with fail
            go_meet
            exact ⟨rfl, BN⟩
        case rest =>
          obtain ⟨rfl, BN⟩ := hcut
          obtain ⟨wn, rfl⟩ : ∃ z, z = wc := ⟨wc, rfl⟩
          have B3 : Hid (Below w.heap.size w wn) := (show Hid _ from pastO B2.out BN.out)
          have b3 : Hid (Below wo.heap.size wo wn) := (show Hid _ from pastO hb2.out BN.out)
          have O3 : Hid (OwnsN wn w.heap.size (.slice (some ⟨sg, 0, none⟩) R.length sc) R) := O2.out.kept BN.out
          clear O2 B2 BN hb2
          cases B with
          | true =>
            obtain ⟨hlj, hle⟩ := HBt.out rfl
            have HG : Hid (∀ m (hm : m < R.length), m < j + 1 → wgV key x ≤ wgV key R[m]) := (show ∀ _, _ from fun m hm h => by
              by_cases e : m = j
              · subst e; exact hle
              · exact hge.out m hm (by omega))
            clear hle
            go_wp2
            go_roundw
            case rel => exact ⟨j + 1, by omega, by go_num, HG, b3⟩
            case measure => simp [intOf]; omega
          | false =>
            have HE : Hid (rnk (wgV key) (l.take (k + 1)) = R.take j ++ [x] ++ R.drop j) := by
              show _ = _
              rw [HSN.out, ins_at (wgV key) x R j hj (fun m hm h => hge.out m hm h) (fun h => HBf.out rfl h)]
              simp
            obtain ⟨A, hA, hAn⟩ := cutN O3.out rfl (k := j) hj
            have hAH : Hid _ := hAn
            have hSc : R.length ≤ sc := by obtain ⟨_, _, e, h4, _⟩ := O3.out.form; injection e with _ _ e3; omega
            have hm : (R.drop j).length = R.length - j := List.length_drop
            have hji : (j : Int) ≤ (R.length : Int) := by omega
            have hjs : (j : Int) ≤ (sc : Int) := by omega
            have hsg := O3.out.under sg rfl
            have hsg2 := O3.out.from sg rfl
            clear hAn HBt HBf hge HSN hb b3
            go_wp2_with (at_builtin; refine wpList_rowE (E := intE) _ rfl (.tmp 41) (.tmp 44) 24 2 (.int .i64 0) 8 Tryd.underlying24 Tryd.infoN2 rfl rfl wn.heap.size (.slice (some ⟨wn.heap.size, 0, Option.none⟩) 0 0) [] rfl (OwnsE.born wn) A (sc - j) (R.drop j) (by simp [Act.eval, hm]) (hAH.out _ (Below.heap_alloc wn _ sg hsg)) (by rw [hm]; simp only [List.length_nil]; unfold maxLen; omega) (by rw [hm]; simp only [List.length_nil]; omega) (by simp) ?_; intro v7 w7 ho7 hg7 hn7)
            have hm2 : ([] ++ R.drop j : List Int) = R.drop j := List.nil_append _
            rw [hm2] at ho7
            have hv7 : ∃ rg rc, v7 = .slice (some ⟨rg, 0, none⟩) (R.length - j) rc := by
              obtain ⟨a7, c7, e7, h71, _, hor⟩ := ho7.form
              rw [hm] at e7 h71
              rcases hor with ⟨rfl, rfl⟩ | ⟨rg, rfl⟩
              · exfalso
                have hz : R.length - j = 0 := by omega
                rw [hz] at e7
                have := (hn7.1 e7).1
                injection this with e _ _
                cases e
              · exact ⟨rg, c7, e7⟩
            obtain ⟨rg, rc, rfl⟩ := hv7
            have hrg := ho7.from rg rfl
            have hsz := hg7.size
            simp at hsz
            have O7 : Hid (OwnsN w7 wn.heap.size (.slice (some ⟨rg, 0, none⟩) (R.length - j) rc) (R.drop j)) := ho7
            have B7 : Hid (Below wn.heap.size wn w7) := (show Hid _ from belowE ((Below.refl _ wn).alloc (Nat.le_refl _) _) hg7 (by simp) (fun z hz => by simp [Value.ownBlock] at hz; omega))
            have ht : (R.take j).length = j := by rw [List.length_take]; omega
            have OL : Hid (OwnsN w7 w.heap.size (.slice (some ⟨sg, 0, none⟩) j sc) (R.take j)) := (show Hid _ from (O3.out.kept B7.out).less rfl j hj)
            have BW : Hid (Below w.heap.size w w7) := (show Hid _ from pastO B3.out B7.out)
            have c7 := HX.out _ BW.out
            have hw7 := BW.out.size
            clear hg7 hn7 ho7 O3 B3 B7 hA hAH hm2
            go_wp2_with fail
            go_region_law (first
              | (refine step_rowE (E := intE) rfl (.tmp 48) (.tmp 53) 24 2 (.int .i64 0) 8 Tryd.underlying24 Tryd.infoN2 rfl rfl w.heap.size (.slice (some ⟨sg, 0, none⟩) j sc) (R.take j) (by simp [Act.eval]) (OwnsE.alloc (by exact OL.out) _) ⟨w7.heap.size, 0, none⟩ 1 [x] (by simp [Act.eval]) (fresh_cell _ x #[.int .i64 x] 2 rfl) (by rw [ht]; unfold maxLen; simp; omega) (by rw [ht]; simp; omega) (by simp; omega) ?_; intro v8 w8 ho8 hg8 hn8)
              | (refine step_rowE (E := intE) rfl (.tmp 54) (.tmp 55) 24 2 (.int .i64 0) 8 Tryd.underlying24 Tryd.infoN2 rfl rfl w.heap.size v8 (R.take j ++ [x]) (by simp [Act.eval]) ho8 ⟨rg, 0, none⟩ rc (R.drop j) (by simp [Act.eval, hm]) (by exact fun i u hu => World.ownsRow.cells (OwnsE.grown (OwnsE.drew (OwnsE.alloc O7.out (.cells #[.int .i64 x] 2))) hg8 (fun z hz e => by simp [Value.ownBlock] at hz e; omega)) (g := rg) rfl i u hu) (by rw [List.length_append, ht, hm]; unfold maxLen; simp; omega) (by rw [List.length_append, ht, hm]; simp; omega) (by have := hg8.size; simp at this; omega) ?_; intro v9 w9 ho9 hg9 hn9))
            have hl9' : (R.take j ++ [x] ++ R.drop j).length = R.length + 1 := by rw [List.length_append, List.length_append, ht, hm]; simp; omega
            obtain ⟨g9, c9, rfl⟩ : ∃ g9 c9, v9 = .slice (some ⟨g9, 0, none⟩) (R.length + 1) c9 := by
              obtain ⟨a9, c9, e9, _⟩ := ho9.form
              subst e9
              obtain ⟨g9, e⟩ := ownsN_some ho9 (by omega)
              exact ⟨g9, c9, by rw [e, hl9']⟩
            have HO : Hid (OwnsN w9 w.heap.size (.slice (some ⟨g9, 0, none⟩) (R.length + 1) c9) (R.take j ++ [x] ++ R.drop j)) := ho9
            have HB : Hid (Below w.heap.size w w9) := by
              have e1 : Below w.heap.size w w8 := belowE (BW.out.trans (belDrew ((Below.refl _ w7).alloc (by omega) _))) hg8 (by simp; omega) (fun z hz => by simp [Value.ownBlock] at hz; omega)
              exact (show Hid _ from belowE e1 hg9 e1.size (OwnsE.from ho8))
            clear ho8 hg8 hn8 ho9 hg9 hn9 O7 OL BW c7
            go_wp2
            go_roundw
            case rel => exact ⟨k + 1, g9, c9, by omega, by go_num, by rw [HE.out, hl9'], by rw [HE.out, hl9']; exact HO, HB⟩
            case measure => simp [intOf]; omega
    · obtain rfl : k = l.length := by omega
      rw [List.take_of_length_le (Nat.le_refl _)] at ho ⊢
      go_wp2
      go_ret
      exact ⟨_, rfl, ho.out, hb.out⟩
end Go.Proofs.YtdbeoloonoodkaaDoor

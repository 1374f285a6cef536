/-
  The specification's count.
  A region that draws its order, as in RgH; what holds all along may speak of which operations are done and of what they have left.
  A region that draws its order, one of whose operations is an append to a row of the call's own.
  What a call answers that answers a replica and messages, opened; how great it is; the messages marked and held from where the replica's marks end.
  The specification's l17Asks and l17Begins.
  A message put among those that tell: plain, and in memory.
-/
import Derived.Test.YtdkhdjickkcaiaaGreatRVS
import Derived.Test.YtdkhdjickkcaiaaGreatRV20
import Derived.Test.YtdkhdjickkcaiaaGreatRV17
import Derived.Test.YtdkhdjickkcaiaaGreatRV22
import Derived.Test.YtdkhdjickkcaiaaGreatRV12
import Derived.Test.YtdkhdjickkcaiaaGreatRV21
import Derived.Test.YtdkhdjickkcaiaaGreatRV19
import Derived.Test.YtdkhdjickkcaiaaGreatRV18
import Derived.Test.YtdkhdjickkcaiaaGreatRV16
set_option linter.unusedVariables false
set_option linter.unusedSimpArgs false
set_option maxRecDepth 100000
set_option maxHeartbeats 64000000
namespace Go.Proofs.YtdkhdjickkcaiaaGreat.Rl
open Go.RowKit Go.Sort Go.Shelf

theorem cmF_low {ok : List Int} {p c : Int} : ∀ N : Nat, (N : Int) ≤ c → cmF ok p c N = c
 | 0, _ => rfl
 | N + 1, h => by
  unfold cmF
  rw [if_neg (fun hh => by omega)]
  exact cmF_low N (by omega)
theorem cmF_up {ok : List Int} {p c : Int} {N : Nat} (h : c ≤ (N : Int)) (hm : maj (cntF ok ((N + 1 : Nat) : Int)) p) : cmF ok p c (N + 1) = ((N + 1 : Nat) : Int) := by
 unfold cmF
 exact if_pos ⟨by omega, hm⟩
theorem cmF_same {ok : List Int} {p c : Int} {N : Nat} (hm : ¬ maj (cntF ok ((N + 1 : Nat) : Int)) p) : cmF ok p c (N + 1) = cmF ok p c N := by
 conv => lhs; unfold cmF
 exact if_neg (fun hh => hm hh.2)
theorem cntF_next {ok : List Int} {n : Int} {k : Nat} (h : k < ok.length) : cntF (ok.take (k + 1)) n = cntF (ok.take k) n + (if n ≤ ok[k] then 1 else 0) := by
 unfold cntF
 rw [List.take_succ_eq_append_getElem h, List.filter_append, List.length_append]
 by_cases h1 : n ≤ ok[k] <;> simp [List.filter, h1]
theorem cntF_le (ok : List Int) (n : Int) : cntF ok n ≤ ok.length := by
 unfold cntF
 exact List.length_filter_le _ _
theorem specCnt (r : Rp) (u : Rv) (b B : Nat) (w : World) (hB : RpB w b r u) (hO : HasN w B u.ok r.ok) (hl : ∃ a c, u.l = .slice a r.l.length c) (hne : ∀ k, u.ok.ownBlock = some k → k ≠ b) (hp : pOk r.p) (hol : (r.ok.length : Int) = r.p) (hid : 0 ≤ r.id ∧ r.id < r.p) (hc : 0 ≤ r.c ∧ r.c ≤ (r.l.length : Int)) (hlen : r.l.length ≤ 1048576) :
  Calls Tryz.prog 72 #[.pointer (some ⟨b, 0, none⟩)] w fun e w' => e = .returned (.tuple #[]) ∧ RpB w' b (cntd r) u ∧ HasN w' B u.ok (cntd r).ok ∧ ChS (fun k => k = b ∨ u.ok.ownBlock = some k) w w' := by
 obtain ⟨la, lc, hul⟩ := hl
 have h0 : 0 < r.ok.length := by rcases hp with h | h | h <;> omega
 obtain ⟨g, cap, huo, hgB, hgz⟩ : ∃ g cap, u.ok = .slice (some ⟨g, 0, none⟩) r.ok.length cap ∧ B ≤ g ∧ g < w.heap.size := by
  rcases hO with ⟨_, h1⟩ | ⟨g, cap, cur, h1, h2, h3, _⟩
  ·
   rw [h1] at h0; exact absurd h0 (by simp)
  ·
   exact ⟨g, cap, h1, h2, (Array.getElem?_eq_some_iff.1 h3).1⟩
 have hgb : g ≠ b := hne g (by rw [huo]; rfl)
 have HB : Hid (RpB w b r u) := hB
 rw [huo] at hO
 have HO : Hid (HasN w B (.slice (some ⟨g, 0, none⟩) r.ok.length cap) r.ok) := hO
 obtain ⟨i, hi⟩ : ∃ i : Nat, (i : Int) = r.id := ⟨r.id.toNat, by omega⟩
 have hit : r.id.toNat = i := by omega
 have hil : i < r.ok.length := by omega
 have HW1 : Hid (RpB (w.setCell ⟨g, i, none⟩ (.int .i64 (r.l.length : Int))) b r u) := (show Bx _ _ _ _ from Bx.other HB.out _ _ (fun e => hgb (by first | exact e | exact e.symm)))
 have HO1 : Hid (HasN (w.setCell ⟨g, i, none⟩ (.int .i64 (r.l.length : Int))) B (.slice (some ⟨g, 0, none⟩) r.ok.length cap) (r.ok.set i (r.l.length : Int))) := (show Hid _ from by
  have := HasE.put HO.out hil (i := 0) (by decide) (.int .i64 (r.l.length : Int)) (r.l.length : Int) rfl
  rw [show i * intE.k + 0 = i from by show i * 1 + 0 = i; omega] at this
  exact this)
 have C1 : Hid (ChS (fun k => k = b ∨ u.ok.ownBlock = some k) w (w.setCell ⟨g, i, none⟩ (.int .i64 (r.l.length : Int)))) := hH_ ((ChS.refl _ _).set _ _ (.inr (by rw [huo]; rfl)))
 have q0 := HB.out.cells.1
 have q5 := HB.out.cells.2.2.2.2.2.1
 have q7 := HB.out.cells.2.2.2.2.2.2.2.1
 rw [hul] at q5
 rw [huo] at q7
 rw [← hi] at q0
 have qf : w.frozen? ⟨g, i, none⟩ = false := HasE.free HO.out i
 have qi := hasN_at HO.out i hil
 have HP : Hid (pOk r.p ∧ (r.ok.length : Int) = r.p ∧ (0 ≤ r.c ∧ r.c ≤ (r.l.length : Int)) ∧ r.l.length ≤ 1048576) := ⟨hp, hol, hc, hlen⟩
 clear hB hO hp hol hc hlen
 go_enter Tryz.func72, Tryz.ntmps72
 go_upto_region 0 with fail
 go_region
 clear q0 q5 q7 qf qi
 refine then_gen ?_
 intro W1 hW1
 have hl : Below (w.setCell ⟨g, i, none⟩ (.int .i64 (r.l.length : Int))).heap.size (w.setCell ⟨g, i, none⟩ (.int .i64 (r.l.length : Int))) W1 := by
  rw [hW1]
  exact ⟨rfl, rfl, rfl, Nat.le_refl _, fun _ _ => rfl⟩
 obtain ⟨ok, hok⟩ : ∃ ok, ok = r.ok.set i (r.l.length : Int) := ⟨_, rfl⟩
 have HOK : Hid (ok = r.ok.set i (r.l.length : Int)) := hok
 have hkl : ok.length = r.ok.length := by rw [hok, List.length_set]
 rw [← hok] at HO1
 obtain ⟨c, hc⟩ : ∃ c : Nat, (c : Int) = r.c := ⟨r.c.toNat, by have := HP.out.2.2.1; omega⟩
 have HC : Hid ((c : Int) = r.c) := hc
 have HB2 : Hid (RpB W1 b { r with c := cmF ok r.p r.c c } u) := (show Bx _ b 28 #[.int .i64 r.id, .int .i64 r.p, .int .i64 r.v, .bool r.n, .int .i64 r.la, u.l, .int .i64 (cmF ok r.p r.c c), u.ok, u.ch, u.te] from by
  rw [cmF_low c (by omega)]
  exact Bx.kept HW1.out hl)
 have HO2 : Hid (HasN W1 B (.slice (some ⟨g, 0, none⟩) r.ok.length cap) ok) := hH_ (HasE.kept HO1.out hl)
 have C2 := hH_ (C1.out.trans (ChS.of_below hl))
 have q6 : W1.cell? ⟨b, 6, none⟩ = some (.int .i64 r.c) := by
  have := Bx.cell HB2.out 6
  rw [← cmF_low (ok := ok) (p := r.p) c (show (c : Int) ≤ r.c by omega)]
  exact this
 rw [← hc] at q6
 clear hW1 hl HW1 HO1 C1 HB HO hok hc
 have ew : wrap64 ((c : Int) + 1) = ((c + 1 : Nat) : Int) := by have := HP.out.2.2; have:=HC.out;unfold wrap64; omega
 go_wp2_with fail
 have HKL : Hid (ok.length = r.ok.length ∧ r.ok.length ≤ 5) := hH_ (⟨hkl, by have := HP.out.2.1; rcases HP.out.1 with h | h | h <;> omega⟩)
 have EW : Hid (wrap64 ((c : Int) + 1) = ((c + 1 : Nat) : Int)) := ew
 clear q6 ew
 go_loopw [2] (fun v wr => ∃ N : Nat, c ≤ N ∧ N ≤ r.l.length ∧ v = .int .i64 ((N + 1 : Nat) : Int) ∧ Hid (RpB wr b { r with c := cmF ok r.p r.c N } u) ∧ Hid (HasN wr B (.slice (some ⟨g, 0, none⟩) r.ok.length cap) ok) ∧ Hid (ChS (fun k => k = b ∨ u.ok.ownBlock = some k) w wr)) (fun v _ => r.l.length + 2 - (intOf v).toNat)
 case atStart => exact ⟨c, Nat.le_refl _, by have:=HC.out;have := HP.out.2.2.1; omega, congrArg (Value.int .i64) EW.out, HB2, HO2, C2⟩
 case round =>
  clear HB2 HO2 C2
  obtain ⟨N, hN1, hN2, rfl, hR, hO, hC⟩ := hrel
  obtain ⟨w4, rfl⟩ : ∃ x, x = wr := ⟨wr, rfl⟩
  have q5 := hR.out.cells.2.2.2.2.2.1
  have q7 := hR.out.cells.2.2.2.2.2.2.2.1
  change w4.cell? ⟨b, 5, none⟩ = some u.l at q5
  rw [hul] at q5
  rw [huo] at q7
  have hL : r.l.length ≤ 1048576 := HP.out.2.2.2
  by_cases hlt : N + 1 ≤ r.l.length
  ·
   have hli : ((N + 1 : Nat) : Int) ≤ (r.l.length : Int) := by omega
   go_wp2_with fail
   clear q5 q7 hli
   go_loopw [3, 4] (fun k i wr => ∃ K : Nat, K ≤ ok.length ∧ k = .int .i64 ((cntF (ok.take K) ((N + 1 : Nat) : Int) : Nat) : Int) ∧ i = .int .i64 (K : Int) ∧ Hid (RpB wr b { r with c := cmF ok r.p r.c N } u) ∧ Hid (HasN wr B (.slice (some ⟨g, 0, none⟩) r.ok.length cap) ok) ∧ Hid (ChS (fun k => k = b ∨ u.ok.ownBlock = some k) w wr)) (fun _ i _ => ok.length - (intOf i).toNat)
   case atStart => exact ⟨0, Nat.zero_le _, rfl, rfl, hR, hO, hC⟩
   case round =>
    clear hR hO hC
    obtain ⟨K, hK, rfl, rfl, hR, hO, hC⟩ := hrel
    obtain ⟨w5, rfl⟩ : ∃ x, x = wr := ⟨wr, rfl⟩
    have q1 := hR.out.cells.2.1
    have q7 := hR.out.cells.2.2.2.2.2.2.2.1
    change w5.cell? ⟨b, 1, none⟩ = some (.int .i64 r.p) at q1
    rw [huo] at q7
    have hcl : cntF (ok.take K) ((N + 1 : Nat) : Int) ≤ 5 := Nat.le_trans (cntF_le _ _) (by rw [List.length_take]; have:=HKL.out;omega)
    by_cases hkt : K < ok.length
    ·
     have hk2 : (K : Int) < (r.ok.length : Int) := by have := HKL.out.1; omega
     have hk3 : K < r.ok.length := by have := HKL.out.1; omega
     have qk := hasN_at hO.out K hkt
     have hk5 : K < 5 := by have:=HKL.out;omega
     have hnx := cntF_next (n := ((N + 1 : Nat) : Int)) hkt
     by_cases hge : ((N + 1 : Nat) : Int) ≤ ok[K]
     ·
      rw [if_pos hge] at hnx
      have HNX : Hid _ := hnx
      generalize ok[K] = z at qk hge
      clear hnx
      generalize cntF (ok.take K) ((N + 1 : Nat) : Int) = q at hcl HNX
      go_wp2_with fail
      go_roundw
      case rel => exact ⟨K + 1, hkt, by rw [HNX.out]; go_num, by go_num, hR, hO, hC⟩
      case measure => simp [intOf]; omega
     ·
      rw [if_neg hge] at hnx
      have HNX : Hid _ := hnx
      generalize ok[K] = z at qk hge
      clear hnx
      generalize cntF (ok.take K) ((N + 1 : Nat) : Int) = q at hcl HNX
      go_wp2_with fail
      go_roundw
      case rel => exact ⟨K + 1, hkt, by rw [HNX.out]; rfl, by go_num, hR, hO, hC⟩
      case measure => simp [intOf]; omega
    ·
     obtain rfl : K = ok.length := by omega
     have hk2 : ¬ (ok.length : Int) < (r.ok.length : Int) := by have := HKL.out.1; omega
     rw [List.take_of_length_le (Nat.le_refl _)] at hcl ⊢
     have jm := fun W => specMaj (cntF ok ((N + 1 : Nat) : Int)) r.p W (by omega)
     have q6 := Bx.cell hR.out 6
     have qf := Bx.free hR.out 6
     generalize hm : dB (maj (cntF ok ((N + 1 : Nat) : Int)) r.p) = mb at jm
     cases mb with
     | true =>
      have HR2 : Hid (RpB (w5.setCell ⟨b, 6, none⟩ (.int .i64 ((N : Int) + 1))) b { r with c := cmF ok r.p r.c (N + 1) } u) := (show Bx _ b 28 #[.int .i64 r.id, .int .i64 r.p, .int .i64 r.v, .bool r.n, .int .i64 r.la, u.l, .int .i64 (cmF ok r.p r.c (N + 1)), u.ok, u.ch, u.te] from by
       rw [cmF_up (by have:=HC.out;omega) (dB_is hm)]
       exact Bx.put hR.out 6 _)
      have HO2 : Hid (HasN (w5.setCell ⟨b, 6, none⟩ (.int .i64 ((N : Int) + 1))) B (.slice (some ⟨g, 0, none⟩) r.ok.length cap) ok) := (show Hid _ from HasE.oth hO.out _ _ (fun k hk => by
       obtain rfl : g = k := by simpa [Value.ownBlock] using hk
       exact hgb))
      have HC2 : Hid (ChS (fun k => k = b ∨ u.ok.ownBlock = some k) w (w5.setCell ⟨b, 6, none⟩ (.int .i64 ((N : Int) + 1)))) := hH_ (hC.out.set _ _ (.inl rfl))
      go_wp2_with fail
      refine (jm _).mono ?_
      rintro e w6 ⟨rfl, rfl⟩
      clear jm
      go_wp2_with fail
      go_roundw
      case rel => exact ⟨N + 1, by omega, hlt, by go_num, HR2, HO2, HC2⟩
      case measure => simp [intOf]; omega
     | false =>
      have HR2 : Hid (RpB w5 b { r with c := cmF ok r.p r.c (N + 1) } u) := hH_ (by rw [cmF_same (dB_not hm)]; exact hR.out)
      go_wp2_with fail
      refine (jm _).mono ?_
      rintro e w6 ⟨rfl, rfl⟩
      clear jm
      go_wp2_with fail
      go_roundw
      case rel => exact ⟨N + 1, by omega, hlt, by go_num, HR2, hO, hC⟩
      case measure => simp [intOf]; omega
  ·
   obtain rfl : N = r.l.length := by omega
   have hli : ¬ ((r.l.length + 1 : Nat) : Int) ≤ (r.l.length : Int) := by omega
   have HR9 : Hid (RpB w4 b (cntd r) u) := (show Bx _ b 28 #[.int .i64 r.id, .int .i64 r.p, .int .i64 r.v, .bool r.n, .int .i64 r.la, u.l, .int .i64 (cntd r).c, u.ok, u.ch, u.te] from by
    unfold cntd
    simp only [hit]
    rw [← HOK.out]
    exact hR.out)
   have HO9 : Hid (HasN w4 B (.slice (some ⟨g, 0, none⟩) r.ok.length cap) (cntd r).ok) := (show Hid _ from by
    rw [cntd_ok, hit, ← HOK.out]
    exact hO.out)
   go_wp2
   go_end0
   exact ⟨rfl, HR9.out, HO9.out, by rw [← huo]; exact hC.out⟩
end Go.Proofs.YtdkhdjickkcaiaaGreat.Rl
namespace Go.Proofs.YtdkhdjickkcaiaaGreat
open Go Go.RowKit Go.Sort

section
variable {P : Program}
theorem any_headsL {l : List Oper} {Q : Exit → Act → World → Prop} (n : Nat) (hn : n < l.length) (hs : Region.sinkB .any l.toArray n = true) (hc : Region.chainB .any l.toArray n = true)
  (hq : Region.seqB .any l.toArray (l.length - n) n (Array.replicate n true ++ Array.replicate (l.length - n) false) = true) (hb : backB l.toArray n = true)
  (F : (Nat → Value) → Act) (d : Nat → Nat) (S : Array Bool → (Nat → Value) → World → Prop) (G : Nat → World → Value → Prop) (hinj : ∀ i j, i < n → j < n → j ≠ i → d j ≠ d i) (hput : ∀ (i : Nat) (o : Oper), i < n → l[i]? = some o → ∀ (t : Nat → Value) (v : Value), (F t).put o.dst v = F (updH t (d i) v))
  (hstep : ∀ (i : Nat) (o : Oper), i < n → l[i]? = some o → ∀ (listed : Array Bool), listed.getD i false = false → (∀ j oj, l.toArray[j]? = some oj → listed.getD j false = true → ∀ e ∈ oj.after, Region.binds .any e = true → listed.getD e.on false = true) → listed.size = l.toArray.size → ∀ (t : Nat → Value) (x : World), S listed t x → (∀ e ∈ o.after, Region.binds .any e = true → G e.on x (t (d e.on))) → ∀ K : Act → World → Prop,
   (∀ v y, S (listed.setIfInBounds i true) (updH t (d i) v) y → (∀ j u, j < n → j ≠ i → G j x u → G j y u) → G i y v → K ((F t).put o.dst v) y) →
   if Region.wanted o (yielded l.toArray (F t).tmps) = true then Oper.wp P o (F t) x K Q else K ((F t).put o.dst undef) x)
  (hdone : ∀ (listed : Array Bool) (t : Nat → Value) (x : World), (∀ i, i < n → listed.getD i false = true) → S listed t x → (∀ j, j < n → G j x (t (d j))) → wpList P l.toArray Q (l.drop n) (F t) x) :
  ∀ (f : Nat) (listed : Array Bool) (t : Nat → Value) (x : World), leftH listed = f → HeadInv .any l.toArray n listed → S listed t x → (∀ j, j < n → listed.getD j false = true → G j x (t (d j))) → wpAny P .any l.toArray Q f listed (F t) x := by
 have hsz : l.toArray.size = n + (l.length - n) := by simp; omega
 have hn2 : n < l.toArray.size := by simpa using hn
 intro f
 induction f with
 | zero =>
  intro listed t x hf inv hS hG
  have h1 := inv.tail n (Nat.le_refl _) hn2
  have := leftH_set h1
  omega
 | succ f ih =>
  intro listed t x hf inv hS hG
  by_cases hall : ∀ i, i < n → listed.getD i false = true
  ·
   have e := allListed (inv.size.trans hsz) hall (fun u h1 h2 => inv.tail u h1 (by omega))
   have hl : leftH listed = l.length - n := by rw [e]; unfold leftH; simp [List.count_replicate]
   have hf2 : f + 1 = (l.drop n).length := by rw [List.length_drop]; omega
   rw [hf2]
   refine wpAny_of_seq (md := .any) (Q' := Q) (l.drop n) n listed (F t) x (fun j => by simp [List.getElem?_drop]) ?_ (hdone listed t x hall hS fun j hj => hG j hj (hall j hj))
   rw [List.length_drop, e]
   exact hq
  ·
   obtain ⟨i0, hi0, hu0⟩ : ∃ i, i < n ∧ listed.getD i false = false := by
    refine Classical.byContradiction fun hno => hall fun i hi => ?_
    cases h : listed.getD i false with
    | true => rfl
    | false => exact absurd ⟨i, hi, h⟩ hno
   have hu0' : listed.getD i0 true = false := getD_in (by rw [inv.size]; omega) hu0
   refine ⟨fun hr => absurd (firsts inv.size hn2 hb hr) hall, fun i hi => ?_⟩
   have hin : i < n := by
    rcases Nat.lt_or_ge i n with h | h
    ·
     exact h
    ·
     exact absurd hi (tail_waits hs hc hn2 inv _ i0 rfl hi0 hu0' i h)
   obtain ⟨h1, o, ho, hdep⟩ := mem_ready.1 hi
   have hdn : ∀ e ∈ o.after, Region.binds .any e = true → e.on < i := backB_spec hb hin ho
   have ho2 : l[i]? = some o := by simpa using ho
   have hc1 := leftH_set h1
   have key := hstep i o hin ho2 listed (getD_both h1) inv.closed inv.size t x hS (fun e he hbd => hG e.on (by have := hdn e he hbd; omega) (hdep e he hbd)) (wpAny P .any l.toArray Q f (listed.setIfInBounds i true)) (fun v y hSy hkeep hGi => by
    rw [hput i o hin ho2 t v]
    refine ih _ _ y (by omega) (inv.set hi hin) hSy fun j hj hl => ?_
    by_cases hji : j = i
    ·
     subst hji
     rw [updH_same]
     exact hGi
    ·
     rw [updH_other _ _ (hinj i j hin hj hji)]
     rw [getD_set_ne false (Ne.symm hji)] at hl
     exact hkeep j _ hj hji (hG j hj hl))
   unfold wpOp
   rw [ho]
   show if Region.wanted o (yielded l.toArray (F t).tmps) = true then _ else _
   split
   ·
    rename_i hw
    rw [if_pos hw] at key
    exact Or.inl key
   ·
    rename_i hw
    rw [if_neg hw] at key
    exact key
theorem region_headsL {l : List Oper} {Q : Exit → Act → World → Prop} {id : Nat} {a : Act} {w : World} (n : Nat) (hm : P.follows .mixedOrders = true) (hn : n < l.length) (hs : Region.sinkB .any l.toArray n = true) (hc : Region.chainB .any l.toArray n = true)
  (hq : Region.seqB .any l.toArray (l.length - n) n (Array.replicate n true ++ Array.replicate (l.length - n) false) = true) (hb : backB l.toArray n = true)
  (F : (Nat → Value) → Act) (d : Nat → Nat) (S : Array Bool → (Nat → Value) → World → Prop) (G : Nat → World → Value → Prop) (hinj : ∀ i j, i < n → j < n → j ≠ i → d j ≠ d i) (hput : ∀ (i : Nat) (o : Oper), i < n → l[i]? = some o → ∀ (t : Nat → Value) (v : Value), (F t).put o.dst v = F (updH t (d i) v)) (t0 : Nat → Value) (h0 : a = F t0) (hS : S (Array.replicate l.toArray.size false) t0 w.drew)
  (hstep : ∀ (i : Nat) (o : Oper), i < n → l[i]? = some o → ∀ (listed : Array Bool), listed.getD i false = false → (∀ j oj, l.toArray[j]? = some oj → listed.getD j false = true → ∀ e ∈ oj.after, Region.binds .any e = true → listed.getD e.on false = true) → listed.size = l.toArray.size → ∀ (t : Nat → Value) (x : World), S listed t x → (∀ e ∈ o.after, Region.binds .any e = true → G e.on x (t (d e.on))) → ∀ K : Act → World → Prop,
   (∀ v y, S (listed.setIfInBounds i true) (updH t (d i) v) y → (∀ j u, j < n → j ≠ i → G j x u → G j y u) → G i y v → K ((F t).put o.dst v) y) →
   if Region.wanted o (yielded l.toArray (F t).tmps) = true then Oper.wp P o (F t) x K Q else K ((F t).put o.dst undef) x)
  (hdone : ∀ (listed : Array Bool) (t : Nat → Value) (x : World), (∀ i, i < n → listed.getD i false = true) → S listed t x → (∀ j, j < n → G j x (t (d j))) → wpList P l.toArray Q (l.drop n) (F t) x) : (Code.region id l.toArray true).wp P Q a w := by
 subst h0
 refine wp_region_any hm ?_
 have inv0 : HeadInv .any l.toArray n (Array.replicate l.toArray.size false) := ⟨by simp, fun j oj _ hl => (by rw [getD_replicate_false] at hl; cases hl), fun t _ ht => getD_in (by simpa using ht) (getD_replicate_false _ _)⟩
 exact any_headsL n hn hs hc hq hb F d S G hinj hput hstep hdone _ _ t0 _ (by unfold leftH; simp) inv0 hS (fun j _ hl => by rw [getD_replicate_false] at hl; cases hl)
end
open Go.RowKit Go.Sort

def StepM (m dm : Nat) (S0 : World → Prop) (S1 : Value → World → Prop) (listed : Array Bool) (t : Nat → Value) (x : World) : Prop := (listed.getD m false = false → S0 x) ∧ (listed.getD m false = true → S1 (t dm) x)
theorem StepM.before {m dm : Nat} {S0 : World → Prop} {S1 : Value → World → Prop} {listed : Array Bool} (h8 : listed.getD m false = false) {i : Nat} (hi : i ≠ m) {t' : Nat → Value} {y : World} (hy : S0 y) : StepM m dm S0 S1 (listed.setIfInBounds i true) t' y :=
 ⟨fun _ => hy, fun h => by rw [getD_set_ne false hi, h8] at h; cases h⟩
theorem StepM.free {m dm : Nat} {S0 : World → Prop} {S1 : Value → World → Prop} {listed : Array Bool} {t : Nat → Value} {x : World} (h : StepM m dm S0 S1 listed t x) {i d : Nat} {v : Value} (hi : i ≠ m) (hd : dm ≠ d) : StepM m dm S0 S1 (listed.setIfInBounds i true) (updH t d v) x :=
 ⟨fun h1 => h.1 (by rw [getD_set_ne false hi] at h1; exact h1), fun h1 => by rw [updH_other _ _ hd]; exact h.2 (by rw [getD_set_ne false hi] at h1; exact h1)⟩
theorem StepM.at {m dm : Nat} {S0 : World → Prop} {S1 : Value → World → Prop} {listed : Array Bool} {t : Nat → Value} {v : Value} {y : World} (hm : m < listed.size) (h : S1 v y) : StepM m dm S0 S1 (listed.setIfInBounds m true) (updH t dm v) y :=
 ⟨fun h1 => by simp [hm] at h1, fun _ => by rw [updH_same]; exact h⟩
end Go.Proofs.YtdkhdjickkcaiaaGreat
namespace Go.Proofs.YtdkhdjickkcaiaaGreat.Rl
open Go.RowKit Go.Sort Pg

theorem sprL_few {r : Rp} (h : RpOk r) : Few (sprL r) := by
 have := sprA_few r h.fit.l.1
 have e : sprA r = sprL r := by unfold sprA; exact if_pos h
 rw [e] at this
 exact this
theorem few_nil : Few [] := ⟨by simp, fun m hm => nomatch hm⟩
theorem few_cTs {L : List Ms} (h : Few L) {T : List Mx} (i : T.map (·.m) = L) {s : Nat} (hs : s ≤ 40000000) : s + cT T ≤ 50000000 := by
 rw [cT_of i]
 have h1 := sum_few (L.map fun m => m.l.length) (fun x hx => by obtain ⟨m, hm, rfl⟩ := List.mem_map.1 hx; exact h.l m hm)
 rw [List.length_map] at h1
 have h2 := h.n
 have h3 : L.length * 1048576 ≤ 6 * 1048576 := Nat.mul_le_mul_right _ h2
 omega
def mkS (s : Nat) (T : List Mx) : Int := (s : Int) + (cT T : Int)
theorem mkS_nn (s : Nat) (T : List Mx) : ¬ mkS s T < 0 := by unfold mkS; omega
theorem markMsN {L : List Ms} (hL : Few L) {s : Nat} (hs1 : 1 ≤ s) (hs : s ≤ 40000000) {lo hi : Nat} {v : Value} {T : List Mx} (W : World) (h : MsF lo hi v T W) (i : T.map (·.m) = L) :
  Calls Tryz.prog 38 #[v, .int .i64 (s : Int)] W fun e w' => e = .returned (.int .i64 (mkS s T)) ∧ MsF lo hi v (mkTe s T) w' ∧ Chg lo hi W w' :=
 (markMsS s hs1 v T (few_cTs hL i hs) lo W h.row h.logs h.ap (hL.each i) (by have := hL.len i; omega)).mono fun e w' ⟨h1, h2, h3, h4⟩ => by
  refine ⟨h1, ⟨h2, h3, fun x hx => ?_, fun k hk => h.top k (by rw [mkTe_u] at hk; exact hk)⟩, h4.chg h.low⟩
  have hu : x.u ∈ (mkTe s T).map Mx.u := List.mem_map.2 ⟨x, hx, rfl⟩
  rw [mkTe_u] at hu
  obtain ⟨y, hy, e⟩ := List.mem_map.1 hu
  rw [← e]
  exact h.ap y hy
theorem kR_is (r : Rp) : kR r = ((1 + cR r : Nat) : Int) := by unfold kR; omega
open Go.RowKit Go.Sort Go.Shelf

theorem specAsk (r : Rp) (u : Rv) (B b : Nat) (z : Int) (w : World) (h : RpAt w B b u r) :
  Calls Tryz.prog 74 #[.pointer (some ⟨b, 0, none⟩), .int .i64 z] w fun e w' => e = .returned (.tuple #[]) ∧ ∃ u', RpAt w' B b u' (askF r z) ∧ Below B w w' := by
 have H0 : Hid (RpAt w B b u r) := h
 have D0 : Hid (Below B w w) := hH_ (Below.refl _ _)
 clear h
 go_enter Tryz.func74, Tryz.ntmps74
 go_upto_region 1 with (refine wpList_rpV H0.out (Below.refl _ _) rfl rfl _ _ rfl z rfl rfl ?_; intro w1 h1 b1)
 have H1 : Hid (RpAt w1 B b u { r with v := z }) := h1
 have D1 := hH_ (D0.out.trans b1)
 clear h1 b1 H0 D0
 go_upto_region 2 with (refine wpList_rpN H1.out (Below.refl _ _) rfl rfl _ _ rfl false rfl rfl ?_; intro w2 h2 b2)
 have H2 : Hid (RpAt w2 B b u { r with v := z, n := false }) := h2
 have D2 := hH_ (D1.out.trans b2)
 clear h2 b2 H1 D1
 go_upto_region 3 with (refine wpList_rpOk H2.out ((Below.refl _ w2).alloc (Nat.le_refl _) _) rfl rfl _ _ rfl (OwnsE.born w2).has rfl rfl ?_; intro w3 h3 b3)
 have H3 : Hid (RpAt w3 B b { u with ok := .slice (some ⟨w2.heap.size, 0, none⟩) 0 0 } { r with v := z, n := false, ok := [] }) := h3
 have D3 := hH_ (D2.out.trans b3)
 clear h3 b3 H2 D2
 have q0 := H3.out.c.cells.1
 change w3.cell? ⟨b, 0, none⟩ = some (.int .i64 r.id) at q0
 go_upto_region 4 with (refine wpList_rpCh H3.out ((Below.refl _ w3).alloc (Nat.le_refl _) _) rfl rfl _ _ rfl (ownsN_one w3 r.id) rfl rfl ?_; intro w4 h4 b4)
 have H4 : Hid (RpAt w4 B b _ { r with v := z, n := false, ch := [r.id], ok := [] }) := hH_ (h4)
 have D4 := hH_ (D3.out.trans b4)
 clear h4 b4 H3 D3 q0
 go_wp2_with (refine wpList_rpTe0 H4.out ((Below.refl _ w4).alloc (Nat.le_refl _) _) rfl rfl _ _ rfl (OwnsE.born w4) rfl rfl ?_; intro w5 h5 b5)
 have H5 : Hid (RpAt w5 B b _ (askF r z)) := hH_ (h5)
 have D5 := hH_ (D4.out.trans b5)
 clear h5 b5 H4 D4
 go_wp2
 go_end0
 first | exact ⟨rfl, _, H5.out, D5.out⟩ | exact ⟨rfl, ⟨_, H5.out⟩, D5.out⟩
theorem bytes_no {a b : ByteArray} (h : a ≠ b) : (a.toList == b.toList) = false := by
 rw [ByteArray.toList_eq, ByteArray.toList_eq]
 refine beq_eq_false_iff_ne.2 fun e => h ?_
 have : a.data = b.data := Array.ext' e
 cases a; cases b; exact congrArg _ this
theorem beg_is {L P : List ByteArray} (h : P.length ≤ L.length) (e : P.take P.length = L.take P.length) : P <+: L := by
 rw [List.take_length] at e
 exact List.prefix_iff_eq_take.2 e
theorem beg_no {L P : List ByteArray} {k : Nat} (h1 : k < P.length) (h2 : k < L.length) (hne : L[k] ≠ P[k]) : ¬ P <+: L := fun h => hne (by
 have := List.prefix_iff_getElem?.1 h k h1
 rw [List.getElem?_eq_getElem h2] at this
 exact Option.some.inj this)
theorem specBeg (v1 v2 : Value) (L P : List ByteArray) (w : World) (h1 : Sls txtE w v1 L) (h2 : Sls txtE w v2 P) (hl : L.length ≤ 1048576) (hp : P.length ≤ 1048576) :
  Calls Tryz.prog 107 #[v1, v2] w fun e w' => e = .returned (.bool (dB (P <+: L))) ∧ Below w.heap.size w w' := by
 obtain ⟨a, ca, rfl, _, _, a3⟩ := h1.txt
 obtain ⟨c, cc, rfl, _, _, b3⟩ := h2.txt
 have A3 : Hid (0 < L.length → ∃ g o, a = some ⟨g, o, Option.none⟩ ∧ g < w.heap.size ∧ ∀ j (hj : j < L.length), w.cell? ⟨g, o + j, Option.none⟩ = some (.string L[j])) := a3
 have B3 : Hid (0 < P.length → ∃ g o, c = some ⟨g, o, Option.none⟩ ∧ g < w.heap.size ∧ ∀ j (hj : j < P.length), w.cell? ⟨g, o + j, Option.none⟩ = some (.string P[j])) := b3
 clear h1 h2 a3 b3
 by_cases hlt : (L.length : Int) < (P.length : Int)
 ·
  have HN : Hid (dB (P <+: L) = false) := hH_ (dB_no (fun h => by have := h.length_le; omega))
  go_enter Tryz.func107, Tryz.ntmps107
  go_wp2
  go_ret
  exact ⟨by rw [HN.out]; rfl, Below.refl _ _⟩
 ·
  go_enter Tryz.func107, Tryz.ntmps107
  go_wp2_with fail
  go_loopw [5] (fun i wr => ∃ k : Nat, k ≤ P.length ∧ i = .int .i64 k ∧ Hid (P.take k = L.take k) ∧ Hid (Below w.heap.size w wr)) (fun i _ => P.length - (intOf i).toNat)
  case atStart => exact ⟨0, Nat.zero_le _, rfl, (show Hid _ from rfl), (show Hid _ from Below.refl _ _)⟩
  case round =>
   obtain ⟨k, hk, rfl, hE, hb⟩ := hrel
   by_cases hk2 : k < P.length
   ·
    have hkL : k < L.length := by omega
    obtain ⟨ga, oa, rfl, hga, hca⟩ := A3.out (by omega)
    obtain ⟨gb, ob, rfl, hgb, hcb⟩ := B3.out (by omega)
    have c1 := (hb.out.cell (p := ⟨ga, oa + k, none⟩) hga).trans (hca k hkL)
    have c2 := (hb.out.cell (p := ⟨gb, ob + k, none⟩) hgb).trans (hcb k hk2)
    have HX : Hid (L[k] ≠ P[k] → dB (P <+: L) = false) := hH_ (fun h => dB_no (beg_no hk2 hkL h))
    have HY : Hid (L[k] = P[k] → P.take (k + 1) = L.take (k + 1)) := hH_ (fun h => by rw [List.take_succ_eq_append_getElem hk2, List.take_succ_eq_append_getElem hkL, hE.out, h])
    clear hca hcb
    generalize L[k] = x at c1 HX HY
    generalize P[k] = y at c2 HX HY
    by_cases hxy : x = y
    ·
     have HZ : Hid _ := HY.out hxy
     subst hxy
     clear HX HY
     have eT : (x.toList == x.toList) = true := by simp
     go_wp2_with fail
     go_quiet (fail)
     have B2 : Hid (Below w.heap.size w (wr.drewN nq)) := hH_ (hb.out.trans ⟨rfl, rfl, rfl, Nat.le_refl _, fun _ _ => rfl⟩)
     generalize wr.drewN nq = wn at B2 ⊢
     go_wp2_with fail
     go_roundw
     case rel => exact ⟨k + 1, by omega, by go_num, HZ, B2⟩
     case measure => simp [intOf]; omega
    ·
     have HZ : Hid _ := HX.out hxy
     have eT : (x.toList == y.toList) = false := by
      exact bytes_no hxy
     clear HX HY hxy
     go_wp2_with fail
     go_quiet (fail)
     have B2 : Hid (Below w.heap.size w (wr.drewN nq)) := hH_ (hb.out.trans ⟨rfl, rfl, rfl, Nat.le_refl _, fun _ _ => rfl⟩)
     generalize wr.drewN nq = wn at B2 ⊢
     go_wp2
     go_ret
     exact ⟨by rw [HZ.out]; rfl, B2.out⟩
   ·
    obtain rfl : k = P.length := by omega
    have HZ : Hid (dB (P <+: L) = true) := hH_ (dB_yes (beg_is (by omega) hE.out))
    go_wp2
    go_ret
    exact ⟨by rw [HZ.out]; rfl, hb.out⟩
open Go.RowKit Go.Sort Go.Shelf

theorem putM_eq {m : Ms} : ∀ (te : List Ms) (k : Nat) (hk : k < te.length), (∀ i (h : i < te.length), i < k → te[i].f < m.f) → te[k].f = m.f → putM m te = te.take k ++ m :: te.drop (k + 1)
 | [], k, hk, _, _ => by simp at hk
 | x :: t, 0, hk, _, he => by
  have he : x.f = m.f := he
  unfold putM
  rw [if_neg (by omega), if_pos he]
  rfl
 | x :: t, k + 1, hk, hb, he => by
  have hx : x.f < m.f := hb 0 (by simp) (by omega)
  unfold putM
  rw [if_pos hx]
  have := putM_eq t k (by simpa using hk) (fun i h hi => by have := hb (i + 1) (by simpa using h) (by omega); simpa using this) (by simpa using he)
  rw [this]
  rfl
theorem putM_ins {m : Ms} : ∀ (te : List Ms) (k : Nat), k ≤ te.length → (∀ i (h : i < te.length), i < k → te[i].f < m.f) → (∀ (h : k < te.length), m.f < te[k].f) → putM m te = te.take k ++ m :: te.drop k
 | [], k, hk, _, _ => by
  have : k = 0 := by simpa using hk
  subst this
  rfl
 | x :: t, 0, hk, _, he => by
  have he : m.f < x.f := he (by simp)
  unfold putM
  rw [if_neg (by omega), if_neg (by omega)]
  rfl
 | x :: t, k + 1, hk, hb, he => by
  have hx : x.f < m.f := hb 0 (by simp) (by omega)
  unfold putM
  rw [if_pos hx]
  have := putM_ins t k (by simpa using hk) (fun i h hi => by have := hb (i + 1) (by simpa using h) (by omega); simpa using this) (fun h => by have := he (by simpa using h); simpa using this)
  rw [this]
  rfl
theorem Sls.drop {α : Type} {E : Enc α} {w : World} {g o n c : Nat} {l : List α} (h : Sls E w (.slice (some ⟨g, o, none⟩) n c) l) {k : Nat} (hk : k ≤ l.length) : Sls E w (.slice (some ⟨g, o + k * E.k, none⟩) (n - k) (c - k)) (l.drop k) := by
 obtain ⟨a, cap, hv, h1, h2, h3⟩ := h
 injection hv with e1 e2 e3
 subst e2; subst e3
 refine ⟨_, c - k, by rw [List.length_drop], by rw [List.length_drop]; omega, by omega, fun h0 => ?_⟩
 rw [List.length_drop] at h0
 obtain ⟨g', o', e, hg, hc⟩ := h3 (by omega)
 rw [e] at e1
 injection e1 with e1
 injection e1 with e4 e5 _
 subst e4; subst e5
 refine ⟨g, o + k * E.k, rfl, hg, fun j u hu => ?_⟩
 rw [cellsE_drop E l k hk, List.getElem?_drop] at hu
 have := hc (k * E.k + j) u hu
 rw [← Nat.add_assoc] at this
 exact this
theorem apTy {w : World} {B B' : Nat} {v u : Value} {T : List Mx} {l : List ByteArray} (hv : OwnsM w B v T) (hu : HasX w B' u l) : ap v u := by
 intro k hk hk'
 rcases hv.2 with ⟨e, _⟩ | ⟨g, cap, cur, e, _, hg, _⟩
 ·
  rw [e] at hk; cases hk
 ·
  rw [e] at hk
  have : g = k := by simpa [Value.ownBlock] using hk
  subst this
  exact OwnsE.ne_of hu hg (by decide) g hk' rfl
end Go.Proofs.YtdkhdjickkcaiaaGreat.Rl

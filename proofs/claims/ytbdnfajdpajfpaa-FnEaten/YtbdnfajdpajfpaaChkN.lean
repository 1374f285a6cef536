/-
  The states of the program's reading of chunks that take a size or a byte of the body, each by its contract.
-/
import Derived.Test.YtbdnfajdpajfpaaChkM
namespace Go.Proofs.Ytbdnfajdpajfpaa
open Go.RowKit

theorem EtrV.kept {w w' : World} {S : Nat → Prop} {b : Nat} {c : Ck} {vd vb : Value} (h : EtrV w S b c vd vb) (hb : Below w.heap.size w w') : EtrV w' S b c vd vb := by
  have hk : ∀ k, k < w.heap.size → w'.heap[k]? = w.heap[k]? := fun k hk => hb.block k hk
  have cell : ∀ k, w'.cell? ⟨b, k, none⟩ = w.cell? ⟨b, k, none⟩ := fun k => World.cell?_of_block (a := ⟨b, k, none⟩) (hk b h.hi)
  exact {
    c0 := (cell 0).trans h.c0
    c1 := (cell 1).trans h.c1
    c2 := (cell 2).trans h.c2
    c3 := (cell 3).trans h.c3
    od := h.od.kept fun k e => hk k (h.od.lt k e).2
    ob := h.ob.kept fun k e => hk k (h.ob.lt k e).2
    nd := h.nd
    nb := h.nb
    ne := h.ne
    fz := fun k => by rw [World.frozen?_of_block (a := ⟨b, k, none⟩) (hk b h.hi)]; exact h.fz k
    lo := h.lo
    sd := h.sd
    sb := h.sb
    sz := fun k hk => Nat.lt_of_lt_of_le (h.sz k hk) hb.size
    hi := Nat.lt_of_lt_of_le h.hi hb.size }
theorem len_list (s : ByteArray) : s.data.toList.length = s.size := by simp
theorem back_list (s : ByteArray) : (⟨s.data.toList.toArray⟩ : ByteArray) = s := ba_ext (by simp)
theorem EtrV.dtext {w : World} {S : Nat → Prop} {b : Nat} {c : Ck} {vd vb : Value} (h : EtrV w S b c vd vb) : (convert 22 9 vd).run Try.prog w = .ok (.string c.dg) w := by
  have := h.od.text
  rw [back_list] at this
  exact this
theorem EtrV.btext {w : World} {S : Nat → Prop} {b : Nat} {c : Ck} {vd vb : Value} (h : EtrV w S b c vd vb) : (convert 22 9 vb).run Try.prog w = .ok (.string c.bd) w := by
  have := h.ob.text
  rw [back_list] at this
  exact this
theorem EtrV.dform {w : World} {S : Nat → Prop} {b : Nat} {c : Ck} {vd vb : Value} (h : EtrV w S b c vd vb) : ∃ a cap, vd = .slice a c.dg.size cap := by
  obtain ⟨a, cap, e, _⟩ := h.od.form
  exact ⟨a, cap, by rw [e, len_list]⟩
theorem EtrV.bform {w : World} {S : Nat → Prop} {b : Nat} {c : Ck} {vd vb : Value} (h : EtrV w S b c vd vb) : ∃ a cap, vb = .slice a c.bd.size cap := by
  obtain ⟨a, cap, e, _⟩ := h.ob.form
  exact ⟨a, cap, by rw [e, len_list]⟩

set_option maxHeartbeats 1000000 in
theorem ckTold (S : Nat → Prop) (b : Nat) (c : Ck) (w : World) (h : Etr w S b c) (hd : numOk 16 13 c.dg = true) (hbd : c.bd.size ≤ 4000) :
    Calls Try.prog 50 #[.pointer (some ⟨b, 0, none⟩)] w fun e w' => e = .returned (.tuple #[]) ∧ Etr w' S b (if numV 16 13 c.dg + (c.bd.size : Int) ≤ 4000 then ⟨2, numV 16 13 c.dg, ⟨#[]⟩, c.bd⟩ else badC c) ∧ Kp S w w' := by
  obtain ⟨vd, vb, hv⟩ := h
  have hm : c.dg.size ≤ 13 := by
    unfold numOk at hd
    rw [Bool.and_eq_true] at hd
    exact (of_decide_eq_true hd.1).2
  have hn0 := num_bd (s := c.dg)
  have hn1 : numV 16 13 c.dg ≤ 4503599627370496 := by
    rw [num_yes hd]
    unfold numOk at hd
    rw [Bool.and_eq_true] at hd
    have := num_bound16 (s := c.dg) (k := c.dg.size) hm (Nat.le_refl _) (by rw [List.take_of_length_le (by simp)]; exact hd.2)
    rw [List.take_of_length_le (by simp)] at this
    exact this.2
  have hx : Calls Try.prog 36 #[.string c.dg] w fun e w' => e = .returned (.tuple #[.int .i64 (numV 16 13 c.dg), .bool true]) ∧ Below w.heap.size w w' := by
    have := implHexD c.dg w (by unfold maxLen; omega)
    unfold numE at this
    rw [hd] at this
    exact this
  have hcv := hv.dtext
  have hc2 := hv.c2
  have hf := hv.fz
  have hlo : Hid (¬ S b) := hv.lo
  have hle : Hid (∀ k, S k → k < w.heap.size) := hv.sz
  obtain ⟨ab, cb, rfl⟩ := hv.bform
  generalize numV 16 13 c.dg = n at hn0 hn1 hx ⊢
  clear hd hm
  by_cases hz : n + (c.bd.size : Int) ≤ 4000
  · have hz' : ¬ 4000 < (c.bd.size : Int) + n := by omega
    rw [if_pos hz]
    go_enter Try.func50, Try.ntmps50
    go_wp2_with fail
    refine hx.mono ?_
    rintro e w1 ⟨rfl, hb1⟩
    have hv1 := hv.kept hb1
    have hb1' : Hid (Kp S w w1) := Kp.of hb1 hle.out
    clear hv hcv hc2 hf hb1 hx
    have hc3 := hv1.c3
    have h1 := hv1.lf n
    have h2 := h1.dg0
    have h3 := h2.st 2
    have hc1 := hv1.c1
    have hc2 := h1.c2
    have hc0 := h2.c0
    have hf := hv1.fz
    have H3 : Hid _ := h3
    clear h1 h2 h3 hv1
    go_wp2
    first | (refine bodyPost_ret (results_none rfl _ _ _) rfl ?_) | (refine bodyPost_end (results_none rfl _ _ _) rfl ?_)
    exact ⟨rfl, ⟨_, _, H3.out⟩, hb1'.out.trans (((Kp.set hlo.out _).trans (Kp.set hlo.out _)).trans (Kp.set hlo.out _))⟩
  · have hz' : 4000 < (c.bd.size : Int) + n := by omega
    rw [if_neg hz]
    go_enter Try.func50, Try.ntmps50
    go_wp2_with fail
    refine hx.mono ?_
    rintro e w1 ⟨rfl, hb1⟩
    have hv1 := hv.kept hb1
    have hb1' : Hid (Kp S w w1) := Kp.of hb1 hle.out
    clear hv hcv hc2 hf hb1 hx
    have hc3 := hv1.c3
    have hs := ckSpoil S b c w1 ⟨_, _, hv1⟩
    have hf := hv1.fz
    clear hv1
    go_wp2_with (go_at_call 52; refine hs.mono ?_; rintro e w' ⟨rfl, hE, hB⟩)
    first | (refine bodyPost_ret (results_none rfl _ _ _) rfl ?_) | (refine bodyPost_end (results_none rfl _ _ _) rfl ?_)
    exact ⟨rfl, hE, hb1'.out.trans hB⟩

set_option maxHeartbeats 1000000 in
theorem ck_data (S : Nat → Prop) (b : Nat) (c : Ck) (x : UInt8) (w : World) (h : Etr w S b c) (hst : c.st = 3) (hbd : c.bd.size ≤ 4000) (hl0 : 0 ≤ c.lf) (hl1 : c.lf ≤ 4000) :
    Calls Try.prog 42 #[.pointer (some ⟨b, 0, none⟩), .int .u8 (x.toNat : Int)] w fun e w' => e = .returned (.tuple #[]) ∧ Etr w' S b (eat1 c x) ∧ Kp S w w' := by
  obtain ⟨vd, vb, hv⟩ := h
  have hc3 := hv.c3
  have hlo := hv.lo
  have hf := hv.fz
  have hll := len_list c.bd
  have hwr : IntKind.i64.wrap (c.lf - 1) = c.lf - 1 := by rw [IntKind.wrap_i64]; omega
  rw [eat_3 hst]
  by_cases hz : c.lf = 1
  · rw [if_pos hz]
    have hz' : c.lf - 1 = 0 := by omega
    go_enter Try.func42, Try.ntmps42
    go_wp2_with (
      at_builtin
      refine wpList_pushC _ rfl (.tmp 8) (.tmp 10) rfl 0 _ _ _ x rfl rfl hv.ob rfl (by omega) (Nat.zero_le _) ?_
      intro v2 w2 ho2 hg2 hat
      have h1 := hv.bdPush ho2 hg2 hat
      have hb1 : Kp S w (w2.setCell ⟨b, 3, none⟩ v2) := (Kp.grown hg2 hv.sb hv.sz).trans (Kp.set hlo _)
      have hq3 := hg2.cell (a := ⟨b, 3, none⟩) hv.c3 hv.nb
      have hq0 := hg2.cell (a := ⟨b, 0, none⟩) hv.c0 hv.nb
      have hq1 := hg2.cell (a := ⟨b, 1, none⟩) hv.c1 hv.nb
      have hf2 : ∀ k, w2.frozen? ⟨b, k, none⟩ = false := fun k => (World.frozen?_of_block (a := ⟨b, k, none⟩) (hg2.block b hv.hi hv.nb)).trans (hv.fz k)
      obtain ⟨a2, cp2, hv2, _⟩ := ho2.form
      rw [List.length_append, hll, List.length_singleton] at hv2
      subst hv2
      have h2 := h1.lf (c.lf - 1)
      have hc1 := h1.c1
      have hcc := h2.c1
      have h3 := h2.st 4
      have hc0 := h2.c0
      have H3 : Hid _ := h3
      have HB : Hid _ := hb1
      clear hv h1 h2 h3 ho2 hg2 hb1 hc3 hf)
    first | (refine bodyPost_ret (results_none rfl _ _ _) rfl ?_) | (refine bodyPost_end (results_none rfl _ _ _) rfl ?_)
    have H4 := H3.out
    rw [hz'] at H4
    exact ⟨rfl, ⟨_, _, H4⟩, Kp.trans HB.out ((Kp.set hlo _).trans (Kp.set hlo _))⟩
  · rw [if_neg hz]
    have hz' : ¬ c.lf - 1 = 0 := by omega
    go_enter Try.func42, Try.ntmps42
    go_wp2_with (
      at_builtin
      refine wpList_pushC _ rfl (.tmp 8) (.tmp 10) rfl 0 _ _ _ x rfl rfl hv.ob rfl (by omega) (Nat.zero_le _) ?_
      intro v2 w2 ho2 hg2 hat
      have h1 := hv.bdPush ho2 hg2 hat
      have hb1 : Kp S w (w2.setCell ⟨b, 3, none⟩ v2) := (Kp.grown hg2 hv.sb hv.sz).trans (Kp.set hlo _)
      have hq3 := hg2.cell (a := ⟨b, 3, none⟩) hv.c3 hv.nb
      have hq0 := hg2.cell (a := ⟨b, 0, none⟩) hv.c0 hv.nb
      have hq1 := hg2.cell (a := ⟨b, 1, none⟩) hv.c1 hv.nb
      have hf2 : ∀ k, w2.frozen? ⟨b, k, none⟩ = false := fun k => (World.frozen?_of_block (a := ⟨b, k, none⟩) (hg2.block b hv.hi hv.nb)).trans (hv.fz k)
      obtain ⟨a2, cp2, hv2, _⟩ := ho2.form
      rw [List.length_append, hll, List.length_singleton] at hv2
      subst hv2
      have h2 := h1.lf (c.lf - 1)
      have hc1 := h1.c1
      have hcc := h2.c1
      have H3 : Hid _ := h2
      have HB : Hid _ := hb1
      clear hv h1 h2 ho2 hg2 hb1 hc3 hf)
    first | (refine bodyPost_ret (results_none rfl _ _ _) rfl ?_) | (refine bodyPost_end (results_none rfl _ _ _) rfl ?_)
    have H4 := H3.out
    rw [hst] at H4
    exact ⟨rfl, ⟨_, _, H4⟩, Kp.trans HB.out (Kp.set hlo _)⟩

set_option maxHeartbeats 1000000 in
theorem ck_size (S : Nat → Prop) (b : Nat) (c : Ck) (x : UInt8) (w : World) (h : Etr w S b c) (hst : c.st = 1) (hbd : c.bd.size ≤ 4000) (hdg : c.dg.size ≤ 13) (hall : allB (digN 16) c.dg.data.toList = true) :
    Calls Try.prog 40 #[.pointer (some ⟨b, 0, none⟩), .int .u8 (x.toNat : Int)] w fun e w' => e = .returned (.tuple #[]) ∧ Etr w' S b (eat1 c x) ∧ Kp S w w' := by
  have hE := h
  obtain ⟨vd, vb, hv⟩ := h
  have hc2 := hv.c2
  have hlo := hv.lo
  have hf := hv.fz
  have hll := len_list c.dg
  have hxb := byte_lt x
  by_cases h13 : x.toNat = 13
  · have h13' : (x.toNat : Int) = 13 := by omega
    have hdv : digV (x.toNat : Int) = -1 := by rw [h13']; decide
    by_cases h0 : 0 < c.dg.size
    · have hok : numOk 16 13 c.dg = true := numOk_in (by omega) hdg hall.symm
      have he : (if numV 16 13 c.dg + (c.bd.size : Int) ≤ 4000 then (⟨2, numV 16 13 c.dg, ⟨#[]⟩, c.bd⟩ : Ck) else badC c) = eat1 c x := by
        by_cases hz : numV 16 13 c.dg + (c.bd.size : Int) ≤ 4000
        · rw [if_pos hz, eat_size hst h13 hok hz]
        · rw [if_neg hz, eat_nosize hst (by omega) (fun y => hz y.2.2)]
      have hs := ckTold S b c w hE hok hbd
      rw [he] at hs
      obtain ⟨ad, cd, rfl⟩ := hv.dform
      clear he hok hE hv hdv
      go_enter Try.func40, Try.ntmps40
      go_wp2_with (go_at_call 50; refine hs.mono ?_; rintro e w' ⟨rfl, hE, hB⟩)
      first | (refine bodyPost_ret (results_none rfl _ _ _) rfl ?_) | (refine bodyPost_end (results_none rfl _ _ _) rfl ?_)
      exact ⟨rfl, hE, hB⟩
    · have hno : numOk 16 13 c.dg = false := numOk_out (by omega)
      have he : badC c = eat1 c x := (eat_nosize hst (by omega) (fun y => by rw [hno] at y; cases y.2.1)).symm
      have hs := ckSpoil S b c w hE
      rw [he] at hs
      obtain ⟨ad, cd, rfl⟩ := hv.dform
      have hdz : c.dg.size = 0 := by omega
      rw [hdz] at hc2
      clear he hno hE hv h0
      go_enter Try.func40, Try.ntmps40
      go_wp2_with (first | (go_at_call 52; refine hs.mono ?_; rintro e w' ⟨rfl, hE, hB⟩) | (go_at_call 51; refine (implDigV _ _).mono ?_; rintro e w' ⟨rfl, hw'⟩; obtain rfl := hw'.symm; clear hw'))
      first | (refine bodyPost_ret (results_none rfl _ _ _) rfl ?_) | (refine bodyPost_end (results_none rfl _ _ _) rfl ?_)
      exact ⟨rfl, hE, hB⟩
  · have h13' : ¬ (x.toNat : Int) = 13 := by omega
    by_cases hd : 0 ≤ digV (x.toNat : Int)
    · by_cases h12 : c.dg.size < 13
      · rw [eat_digit hst hd h12]
        have hform := hv.dform
        go_enter Try.func40, Try.ntmps40
        go_wp2_with (first | (go_at_call 51; refine (implDigV _ _).mono ?_; rintro e w' ⟨rfl, hw'⟩; obtain rfl := hw'.symm; clear hw'; obtain ⟨ad, cd, hvd⟩ := hform; subst hvd) | (
          at_builtin
          refine wpList_pushC _ rfl (.tmp 36) (.tmp 38) rfl 0 _ _ _ x rfl rfl hv.od rfl (by omega) (Nat.zero_le _) ?_
          intro v2 w2 ho2 hg2 hat
          have h1 := hv.dgPush ho2 hg2 hat
          have hb1 : Kp S w (w2.setCell ⟨b, 2, none⟩ v2) := (Kp.grown hg2 hv.sd hv.sz).trans (Kp.set hlo _)
          have hq3 := hg2.cell (a := ⟨b, 2, none⟩) hv.c2 hv.nd
          have hf2 : ∀ k, w2.frozen? ⟨b, k, none⟩ = false := fun k => (World.frozen?_of_block (a := ⟨b, k, none⟩) (hg2.block b hv.hi hv.nd)).trans (hv.fz k)
          obtain ⟨a2, cp2, hv2, _⟩ := ho2.form
          rw [List.length_append, hll, List.length_singleton] at hv2
          subst hv2
          have H3 : Hid _ := h1
          have HB : Hid _ := hb1
          clear hv h1 ho2 hg2 hb1 hc2 hf hE))
        first | (refine bodyPost_ret (results_none rfl _ _ _) rfl ?_) | (refine bodyPost_end (results_none rfl _ _ _) rfl ?_)
        have H4 := H3.out
        rw [hst] at H4
        exact ⟨rfl, ⟨_, _, H4⟩, HB.out⟩
      · have he : badC c = eat1 c x := (eat_nosize hst (fun y => h12 y.2) (fun y => h13 y.1)).symm
        have hs := ckSpoil S b c w hE
        rw [he] at hs
        obtain ⟨ad, cd, rfl⟩ := hv.dform
        clear he hE hv
        go_enter Try.func40, Try.ntmps40
        go_wp2_with (first | (go_at_call 52; refine hs.mono ?_; rintro e w' ⟨rfl, hE, hB⟩) | (go_at_call 51; refine (implDigV _ _).mono ?_; rintro e w' ⟨rfl, hw'⟩; obtain rfl := hw'.symm; clear hw'))
        first | (refine bodyPost_ret (results_none rfl _ _ _) rfl ?_) | (refine bodyPost_end (results_none rfl _ _ _) rfl ?_)
        exact ⟨rfl, hE, hB⟩
    · have he : badC c = eat1 c x := (eat_nosize hst (fun y => hd y.1) (fun y => h13 y.1)).symm
      have hs := ckSpoil S b c w hE
      rw [he] at hs
      clear he hE hv
      go_enter Try.func40, Try.ntmps40
      go_wp2_with (first | (go_at_call 52; refine hs.mono ?_; rintro e w' ⟨rfl, hE, hB⟩) | (go_at_call 51; refine (implDigV _ _).mono ?_; rintro e w' ⟨rfl, hw'⟩; obtain rfl := hw'.symm; clear hw'))
      first | (refine bodyPost_ret (results_none rfl _ _ _) rfl ?_) | (refine bodyPost_end (results_none rfl _ _ _) rfl ?_)
      exact ⟨rfl, hE, hB⟩
end Go.Proofs.Ytbdnfajdpajfpaa

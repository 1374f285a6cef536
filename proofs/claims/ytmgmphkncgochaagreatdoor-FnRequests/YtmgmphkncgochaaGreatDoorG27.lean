/-
  The states of the program's reading of chunks that take a size or a byte of the body, each by its contract.
  The program's reading of chunks, all bytes of a text eaten in a loop: its contract.
  The program's EatAll, Eat and Unchunked by their contracts.
-/
import Derived.Test.YtmgmphkncgochaaGreatDoorG26
import Derived.Deep.RegionWith
import Derived.Laws.EntriesVeiled
import Derived.Test.YtmgmphkncgochaaGreatDoorG20
namespace Go.Proofs.YtmgmphkncgochaaGreatDoor
open Go.RowKit

theorem EtrV.kept {w w' : World} {S : Nat → Prop} {b : Nat} {c : Ck} {vd vb : Value} (h : EtrV w S b c vd vb) (hb : Below w.heap.size w w') : EtrV w' S b c vd vb := by
  have hk : ∀ k, k < w.heap.size → w'.heap[k]? = w.heap[k]? := fun k hk => hb.block k hk
  have cell : ∀ k, w'.cell? ⟨b, k, none⟩ = w.cell? ⟨b, k, none⟩ := fun k => World.cell?_of_block (a := ⟨b, k, none⟩) (hk b h.hi)
  exact {
    c0 := (cell 0).trans h.c0
    c1 := (cell 1).trans h.c1
    c2 := (cell 2).trans h.c2
    c3 := (cell 3).trans h.c3
    od := h.od.kept fun k e => hk k (h.od.lt k e).2
    ob := h.ob.kept fun k e => hk k (h.ob.lt k e).2
    nd := h.nd
    nb := h.nb
    ne := h.ne
    fz := fun k => by rw [World.frozen?_of_block (a := ⟨b, k, none⟩) (hk b h.hi)]; exact h.fz k
    lo := h.lo
    sd := h.sd
    sb := h.sb
    sz := fun k hk => Nat.lt_of_lt_of_le (h.sz k hk) hb.size
    hi := Nat.lt_of_lt_of_le h.hi hb.size }
theorem len_list (s : ByteArray) : s.data.toList.length = s.size := by simp
theorem back_list (s : ByteArray) : (⟨s.data.toList.toArray⟩ : ByteArray) = s := ba_ext (by simp)
theorem EtrV.dtext {w : World} {S : Nat → Prop} {b : Nat} {c : Ck} {vd vb : Value} (h : EtrV w S b c vd vb) : (convert 22 9 vd).run Tryz.prog w = .ok (.string c.dg) w := by
  have := h.od.text
  rw [back_list] at this
  exact this
theorem EtrV.btext {w : World} {S : Nat → Prop} {b : Nat} {c : Ck} {vd vb : Value} (h : EtrV w S b c vd vb) : (convert 22 9 vb).run Tryz.prog w = .ok (.string c.bd) w := by
  have := h.ob.text
  rw [back_list] at this
  exact this
theorem EtrV.dform {w : World} {S : Nat → Prop} {b : Nat} {c : Ck} {vd vb : Value} (h : EtrV w S b c vd vb) : ∃ a cap, vd = .slice a c.dg.size cap := by
  obtain ⟨a, cap, e, _⟩ := h.od.form
  exact ⟨a, cap, by rw [e, len_list]⟩
theorem EtrV.bform {w : World} {S : Nat → Prop} {b : Nat} {c : Ck} {vd vb : Value} (h : EtrV w S b c vd vb) : ∃ a cap, vb = .slice a c.bd.size cap := by
  obtain ⟨a, cap, e, _⟩ := h.ob.form
  exact ⟨a, cap, by rw [e, len_list]⟩

set_option maxHeartbeats 1000000 in
theorem ckTold (S : Nat → Prop) (b : Nat) (c : Ck) (w : World) (h : Etr w S b c) (hd : numOk 16 13 c.dg = true) (hbd : c.bd.size ≤ 4000) :
    Calls Tryz.prog 196 #[.pointer (some ⟨b, 0, none⟩)] w fun e w' => e = .returned (.tuple #[]) ∧ Etr w' S b (if numV 16 13 c.dg + (c.bd.size : Int) ≤ 4000 then ⟨2, numV 16 13 c.dg, ⟨#[]⟩, c.bd⟩ else badC c) ∧ Kp S w w' := by
  obtain ⟨vd, vb, hv⟩ := h
  have hm : c.dg.size ≤ 13 := by
    unfold numOk at hd
    rw [Bool.and_eq_true] at hd
    exact (of_decide_eq_true hd.1).2
  have hn0 := num_bd (s := c.dg)
  have hn1 : numV 16 13 c.dg ≤ 4503599627370496 := by
    rw [num_yes hd]
    unfold numOk at hd
    rw [Bool.and_eq_true] at hd
    have := num_bound16 (s := c.dg) (k := c.dg.size) hm (Nat.le_refl _) (by rw [List.take_of_length_le (by simp)]; exact hd.2)
    rw [List.take_of_length_le (by simp)] at this
    exact this.2
  have hx : Calls Tryz.prog 195 #[.string c.dg] w fun e w' => e = .returned (.tuple #[.int .i64 (numV 16 13 c.dg), .bool true]) ∧ Below w.heap.size w w' := by
    have := implHexD c.dg w (by unfold maxLen; omega)
    unfold numE at this
    rw [hd] at this
    exact this
  have hcv := hv.dtext
  have hc2 := hv.c2
  have hf := hv.fz
  have hlo : Hid (¬ S b) := hv.lo
  have hle : Hid (∀ k, S k → k < w.heap.size) := hv.sz
  obtain ⟨ab, cb, rfl⟩ := hv.bform
  generalize numV 16 13 c.dg = n at hn0 hn1 hx ⊢
  clear hd hm
  by_cases hz : n + (c.bd.size : Int) ≤ 4000
  · have hz' : ¬ 4000 < (c.bd.size : Int) + n := by omega
    rw [if_pos hz]
    go_enter Tryz.func196, Tryz.ntmps196
    go_wp2_with fail
    refine hx.mono ?_
    rintro e w1 ⟨rfl, hb1⟩
    have hv1 := hv.kept hb1
    have hb1' : Hid (Kp S w w1) := Kp.of hb1 hle.out
    clear hv hcv hc2 hf hb1 hx
    have hc3 := hv1.c3
    have h1 := hv1.lf n
    have h2 := h1.dg0
    have h3 := h2.st 2
    have hc1 := hv1.c1
    have hc2 := h1.c2
    have hc0 := h2.c0
    have hf := hv1.fz
    have H3 : Hid _ := h3
    clear h1 h2 h3 hv1
    go_wp2
    first | (refine bodyPost_ret (results_none rfl _ _ _) rfl ?_) | (refine bodyPost_end (results_none rfl _ _ _) rfl ?_)
    exact ⟨rfl, ⟨_, _, H3.out⟩, hb1'.out.trans (((Kp.set hlo.out _).trans (Kp.set hlo.out _)).trans (Kp.set hlo.out _))⟩
  · have hz' : 4000 < (c.bd.size : Int) + n := by omega
    rw [if_neg hz]
    go_enter Tryz.func196, Tryz.ntmps196
    go_wp2_with fail
    refine hx.mono ?_
    rintro e w1 ⟨rfl, hb1⟩
    have hv1 := hv.kept hb1
    have hb1' : Hid (Kp S w w1) := Kp.of hb1 hle.out
    clear hv hcv hc2 hf hb1 hx
    have hc3 := hv1.c3
    have hs := ckSpoil S b c w1 ⟨_, _, hv1⟩
    have hf := hv1.fz
    clear hv1
    go_wp2_with (go_at_call 197; refine hs.mono ?_; rintro e w' ⟨rfl, hE, hB⟩)
    first | (refine bodyPost_ret (results_none rfl _ _ _) rfl ?_) | (refine bodyPost_end (results_none rfl _ _ _) rfl ?_)
    exact ⟨rfl, hE, hb1'.out.trans hB⟩

set_option maxHeartbeats 1000000 in
theorem ck_data (S : Nat → Prop) (b : Nat) (c : Ck) (x : UInt8) (w : World) (h : Etr w S b c) (hst : c.st = 3) (hbd : c.bd.size ≤ 4000) (hl0 : 0 ≤ c.lf) (hl1 : c.lf ≤ 4000) :
    Calls Tryz.prog 185 #[.pointer (some ⟨b, 0, none⟩), .int .u8 (x.toNat : Int)] w fun e w' => e = .returned (.tuple #[]) ∧ Etr w' S b (eat1 c x) ∧ Kp S w w' := by
  obtain ⟨vd, vb, hv⟩ := h
  have hc3 := hv.c3
  have hlo := hv.lo
  have hf := hv.fz
  have hll := len_list c.bd
  have hwr : IntKind.i64.wrap (c.lf - 1) = c.lf - 1 := by rw [IntKind.wrap_i64]; omega
  rw [eat_3 hst]
  by_cases hz : c.lf = 1
  · rw [if_pos hz]
    have hz' : c.lf - 1 = 0 := by omega
    go_enter Tryz.func185, Tryz.ntmps185
    go_wp2_with (
      at_builtin
      refine wpList_pushC _ rfl (.tmp 8) (.tmp 10) rfl 0 _ _ _ x rfl rfl hv.ob rfl (by omega) (Nat.zero_le _) ?_
      intro v2 w2 ho2 hg2 hat
      have h1 := hv.bdPush ho2 hg2 hat
      have hb1 : Kp S w (w2.setCell ⟨b, 3, none⟩ v2) := (Kp.grown hg2 hv.sb hv.sz).trans (Kp.set hlo _)
      have hq3 := hg2.cell (a := ⟨b, 3, none⟩) hv.c3 hv.nb
      have hq0 := hg2.cell (a := ⟨b, 0, none⟩) hv.c0 hv.nb
      have hq1 := hg2.cell (a := ⟨b, 1, none⟩) hv.c1 hv.nb
      have hf2 : ∀ k, w2.frozen? ⟨b, k, none⟩ = false := fun k => (World.frozen?_of_block (a := ⟨b, k, none⟩) (hg2.block b hv.hi hv.nb)).trans (hv.fz k)
      obtain ⟨a2, cp2, hv2, _⟩ := ho2.form
      rw [List.length_append, hll, List.length_singleton] at hv2
      subst hv2
      have h2 := h1.lf (c.lf - 1)
      have hc1 := h1.c1
      have hcc := h2.c1
      have h3 := h2.st 4
      have hc0 := h2.c0
      have H3 : Hid _ := h3
      have HB : Hid _ := hb1
      clear hv h1 h2 h3 ho2 hg2 hb1 hc3 hf)
    first | (refine bodyPost_ret (results_none rfl _ _ _) rfl ?_) | (refine bodyPost_end (results_none rfl _ _ _) rfl ?_)
    have H4 := H3.out
    rw [hz'] at H4
    exact ⟨rfl, ⟨_, _, H4⟩, Kp.trans HB.out ((Kp.set hlo _).trans (Kp.set hlo _))⟩
  · rw [if_neg hz]
    have hz' : ¬ c.lf - 1 = 0 := by omega
    go_enter Tryz.func185, Tryz.ntmps185
    go_wp2_with (
      at_builtin
      refine wpList_pushC _ rfl (.tmp 8) (.tmp 10) rfl 0 _ _ _ x rfl rfl hv.ob rfl (by omega) (Nat.zero_le _) ?_
      intro v2 w2 ho2 hg2 hat
      have h1 := hv.bdPush ho2 hg2 hat
      have hb1 : Kp S w (w2.setCell ⟨b, 3, none⟩ v2) := (Kp.grown hg2 hv.sb hv.sz).trans (Kp.set hlo _)
      have hq3 := hg2.cell (a := ⟨b, 3, none⟩) hv.c3 hv.nb
      have hq0 := hg2.cell (a := ⟨b, 0, none⟩) hv.c0 hv.nb
      have hq1 := hg2.cell (a := ⟨b, 1, none⟩) hv.c1 hv.nb
      have hf2 : ∀ k, w2.frozen? ⟨b, k, none⟩ = false := fun k => (World.frozen?_of_block (a := ⟨b, k, none⟩) (hg2.block b hv.hi hv.nb)).trans (hv.fz k)
      obtain ⟨a2, cp2, hv2, _⟩ := ho2.form
      rw [List.length_append, hll, List.length_singleton] at hv2
      subst hv2
      have h2 := h1.lf (c.lf - 1)
      have hc1 := h1.c1
      have hcc := h2.c1
      have H3 : Hid _ := h2
      have HB : Hid _ := hb1
      clear hv h1 h2 ho2 hg2 hb1 hc3 hf)
    first | (refine bodyPost_ret (results_none rfl _ _ _) rfl ?_) | (refine bodyPost_end (results_none rfl _ _ _) rfl ?_)
    have H4 := H3.out
    rw [hst] at H4
    exact ⟨rfl, ⟨_, _, H4⟩, Kp.trans HB.out (Kp.set hlo _)⟩

set_option maxHeartbeats 1000000 in
theorem ck_size (S : Nat → Prop) (b : Nat) (c : Ck) (x : UInt8) (w : World) (h : Etr w S b c) (hst : c.st = 1) (hbd : c.bd.size ≤ 4000) (hdg : c.dg.size ≤ 13) (hall : allB (digN 16) c.dg.data.toList = true) :
    Calls Tryz.prog 183 #[.pointer (some ⟨b, 0, none⟩), .int .u8 (x.toNat : Int)] w fun e w' => e = .returned (.tuple #[]) ∧ Etr w' S b (eat1 c x) ∧ Kp S w w' := by
  have hE := h
  obtain ⟨vd, vb, hv⟩ := h
  have hc2 := hv.c2
  have hlo := hv.lo
  have hf := hv.fz
  have hll := len_list c.dg
  have hxb := byte_lt x
  by_cases h13 : x.toNat = 13
  · have h13' : (x.toNat : Int) = 13 := by omega
    have hdv : digV (x.toNat : Int) = -1 := by rw [h13']; decide
    by_cases h0 : 0 < c.dg.size
    · have hok : numOk 16 13 c.dg = true := numOk_in (by omega) hdg hall.symm
      have he : (if numV 16 13 c.dg + (c.bd.size : Int) ≤ 4000 then (⟨2, numV 16 13 c.dg, ⟨#[]⟩, c.bd⟩ : Ck) else badC c) = eat1 c x := by
        by_cases hz : numV 16 13 c.dg + (c.bd.size : Int) ≤ 4000
        · rw [if_pos hz, eat_size hst h13 hok hz]
        · rw [if_neg hz, eat_nosize hst (by omega) (fun y => hz y.2.2)]
      have hs := ckTold S b c w hE hok hbd
      rw [he] at hs
      obtain ⟨ad, cd, rfl⟩ := hv.dform
      clear he hok hE hv hdv
      go_enter Tryz.func183, Tryz.ntmps183
      go_wp2_with (go_at_call 196; refine hs.mono ?_; rintro e w' ⟨rfl, hE, hB⟩)
      first | (refine bodyPost_ret (results_none rfl _ _ _) rfl ?_) | (refine bodyPost_end (results_none rfl _ _ _) rfl ?_)
      exact ⟨rfl, hE, hB⟩
    · have hno : numOk 16 13 c.dg = false := numOk_out (by omega)
      have he : badC c = eat1 c x := (eat_nosize hst (by omega) (fun y => by rw [hno] at y; cases y.2.1)).symm
      have hs := ckSpoil S b c w hE
      rw [he] at hs
      obtain ⟨ad, cd, rfl⟩ := hv.dform
      have hdz : c.dg.size = 0 := by omega
      rw [hdz] at hc2
      clear he hno hE hv h0
      go_enter Tryz.func183, Tryz.ntmps183
      go_wp2_with (first | (go_at_call 197; refine hs.mono ?_; rintro e w' ⟨rfl, hE, hB⟩) | (go_at_call 133; refine (implDigV _ _).mono ?_; rintro e w' ⟨rfl, hw'⟩; obtain rfl := hw'.symm; clear hw'))
      first | (refine bodyPost_ret (results_none rfl _ _ _) rfl ?_) | (refine bodyPost_end (results_none rfl _ _ _) rfl ?_)
      exact ⟨rfl, hE, hB⟩
  · have h13' : ¬ (x.toNat : Int) = 13 := by omega
    by_cases hd : 0 ≤ digV (x.toNat : Int)
    · by_cases h12 : c.dg.size < 13
      · rw [eat_digit hst hd h12]
        have hform := hv.dform
        go_enter Tryz.func183, Tryz.ntmps183
        go_wp2_with (first | (go_at_call 133; refine (implDigV _ _).mono ?_; rintro e w' ⟨rfl, hw'⟩; obtain rfl := hw'.symm; clear hw'; obtain ⟨ad, cd, hvd⟩ := hform; subst hvd) | (
          at_builtin
          refine wpList_pushC _ rfl (.tmp 36) (.tmp 38) rfl 0 _ _ _ x rfl rfl hv.od rfl (by omega) (Nat.zero_le _) ?_
          intro v2 w2 ho2 hg2 hat
          have h1 := hv.dgPush ho2 hg2 hat
          have hb1 : Kp S w (w2.setCell ⟨b, 2, none⟩ v2) := (Kp.grown hg2 hv.sd hv.sz).trans (Kp.set hlo _)
          have hq3 := hg2.cell (a := ⟨b, 2, none⟩) hv.c2 hv.nd
          have hf2 : ∀ k, w2.frozen? ⟨b, k, none⟩ = false := fun k => (World.frozen?_of_block (a := ⟨b, k, none⟩) (hg2.block b hv.hi hv.nd)).trans (hv.fz k)
          obtain ⟨a2, cp2, hv2, _⟩ := ho2.form
          rw [List.length_append, hll, List.length_singleton] at hv2
          subst hv2
          have H3 : Hid _ := h1
          have HB : Hid _ := hb1
          clear hv h1 ho2 hg2 hb1 hc2 hf hE))
        first | (refine bodyPost_ret (results_none rfl _ _ _) rfl ?_) | (refine bodyPost_end (results_none rfl _ _ _) rfl ?_)
        have H4 := H3.out
        rw [hst] at H4
        exact ⟨rfl, ⟨_, _, H4⟩, HB.out⟩
      · have he : badC c = eat1 c x := (eat_nosize hst (fun y => h12 y.2) (fun y => h13 y.1)).symm
        have hs := ckSpoil S b c w hE
        rw [he] at hs
        obtain ⟨ad, cd, rfl⟩ := hv.dform
        clear he hE hv
        go_enter Tryz.func183, Tryz.ntmps183
        go_wp2_with (first | (go_at_call 197; refine hs.mono ?_; rintro e w' ⟨rfl, hE, hB⟩) | (go_at_call 133; refine (implDigV _ _).mono ?_; rintro e w' ⟨rfl, hw'⟩; obtain rfl := hw'.symm; clear hw'))
        first | (refine bodyPost_ret (results_none rfl _ _ _) rfl ?_) | (refine bodyPost_end (results_none rfl _ _ _) rfl ?_)
        exact ⟨rfl, hE, hB⟩
    · have he : badC c = eat1 c x := (eat_nosize hst (fun y => hd y.1) (fun y => h13 y.1)).symm
      have hs := ckSpoil S b c w hE
      rw [he] at hs
      clear he hE hv
      go_enter Tryz.func183, Tryz.ntmps183
      go_wp2_with (first | (go_at_call 197; refine hs.mono ?_; rintro e w' ⟨rfl, hE, hB⟩) | (go_at_call 133; refine (implDigV _ _).mono ?_; rintro e w' ⟨rfl, hw'⟩; obtain rfl := hw'.symm; clear hw'))
      first | (refine bodyPost_ret (results_none rfl _ _ _) rfl ?_) | (refine bodyPost_end (results_none rfl _ _ _) rfl ?_)
      exact ⟨rfl, hE, hB⟩
end Go.Proofs.YtmgmphkncgochaaGreatDoor
namespace Go.Proofs.YtmgmphkncgochaaGreatDoor
open Go.RowKit

theorem drop_at {t : ByteArray} {k : Nat} (h : k < t.size) : t.data.toList.drop k = t[k] :: t.data.toList.drop (k + 1) := by
  rw [List.drop_eq_getElem_cons (by simpa using h)]
  rfl
theorem drop_end {t : ByteArray} {k : Nat} (h : ¬ k < t.size) : t.data.toList.drop k = [] := List.drop_of_length_le (by have := len_list t; omega)
/-- The methods in the array of states. -/
def Sts (w : World) (A : Nat) : Prop := w.cell? ⟨A, 1, none⟩ = some (.func (.func 183) #[] #[]) ∧ w.cell? ⟨A, 2, none⟩ = some (.func (.func 184) #[] #[]) ∧ w.cell? ⟨A, 3, none⟩ = some (.func (.func 185) #[] #[]) ∧ w.cell? ⟨A, 4, none⟩ = some (.func (.func 186) #[] #[]) ∧ w.cell? ⟨A, 5, none⟩ = some (.func (.func 187) #[] #[]) ∧ w.cell? ⟨A, 6, none⟩ = some (.func (.func 188) #[] #[]) ∧ w.cell? ⟨A, 7, none⟩ = some (.func (.func 189) #[] #[])
theorem Sts.kept {w w' : World} {A : Nat} (h : Sts w A) (hA : w'.heap[A]? = w.heap[A]?) : Sts w' A := by
  have c : ∀ k, w'.cell? ⟨A, k, none⟩ = w.cell? ⟨A, k, none⟩ := fun k => World.cell?_of_block (a := ⟨A, k, none⟩) hA
  obtain ⟨h1, h2, h3, h4, h5, h6, h7⟩ := h
  exact ⟨(c 1).trans h1, (c 2).trans h2, (c 3).trans h3, (c 4).trans h4, (c 5).trans h5, (c 6).trans h6, (c 7).trans h7⟩
theorem EtrV.more {w : World} {S : Nat → Prop} {b : Nat} {c : Ck} {vd vb : Value} (h : EtrV w S b c vd vb) {w' : World} (hb : Below w.heap.size w w') (hz : w.heap.size < w'.heap.size) : EtrV w' (fun k => S k ∨ k = w.heap.size) b c vd vb := by
  have h' := h.kept hb
  exact {
    c0 := h'.c0
    c1 := h'.c1
    c2 := h'.c2
    c3 := h'.c3
    od := h'.od
    ob := h'.ob
    nd := h'.nd
    nb := h'.nb
    ne := h'.ne
    fz := h'.fz
    lo := fun x => by rcases x with x | x; exact h.lo x; have := h.hi; omega
    sd := fun k hk x => by rcases x with x | x; exact h.sd k hk x; have := (h.od.lt k hk).2; omega
    sb := fun k hk x => by rcases x with x | x; exact h.sb k hk x; have := (h.ob.lt k hk).2; omega
    sz := fun k x => by rcases x with x | x; exact h'.sz k x; omega
    hi := h'.hi }
theorem Etr.less {w : World} {S T : Nat → Prop} {b : Nat} {c : Ck} (h : Etr w S b c) (hT : ∀ k, T k → S k) : Etr w T b c := by
  obtain ⟨vd, vb, h⟩ := h
  exact ⟨vd, vb, {
    c0 := h.c0
    c1 := h.c1
    c2 := h.c2
    c3 := h.c3
    od := h.od
    ob := h.ob
    nd := h.nd
    nb := h.nb
    ne := h.ne
    fz := h.fz
    lo := fun x => h.lo (hT _ x)
    sd := fun k hk x => h.sd k hk (hT _ x)
    sb := fun k hk x => h.sb k hk (hT _ x)
    sz := fun k x => h.sz k (hT _ x)
    hi := h.hi }⟩
theorem Etr.drew {w : World} {S : Nat → Prop} {b : Nat} {c : Ck} (h : Etr w S b c) : Etr w.drew S b c := by
  obtain ⟨vd, vb, h⟩ := h
  exact ⟨vd, vb, ⟨h.c0, h.c1, h.c2, h.c3, h.od, h.ob, h.nd, h.nb, h.ne, h.fz, h.lo, h.sd, h.sb, h.sz, h.hi⟩⟩
theorem ret_nat {a b : Nat} (h : a = b) : Ending.returned (.int .i64 (a : Int)) = .returned (.int .i64 (b : Int)) := by rw [h]

set_option maxHeartbeats 4000000 in
set_option maxRecDepth 100000 in
theorem ck_eat (S : Nat → Prop) (b : Nat) (c : Ck) (t : ByteArray) (w : World) (h : Etr w S b c) (hok : okP c) (ht : t.size ≤ 100000000) :
    Calls Tryz.prog 165 #[.pointer (some ⟨b, 0, none⟩), .string t] w fun e w' => e = .returned (.int .i64 (cnt c t.data.toList : Int)) ∧ Etr w' S b (fin c t.data.toList) ∧ Kp S w w' := by
  obtain ⟨vd, vb, hv⟩ := h
  have HV : Hid _ := hv
  clear hv
  go_enter Tryz.func165, Tryz.ntmps165
  go_wp2
  go_loopw [6] (fun i wr => ∃ (k : Nat) (d : Ck), i = .int .i64 k ∧ k ≤ t.size ∧ Hid (okP d) ∧ Hid (Etr wr (fun j => S j ∨ j = w.heap.size) b d) ∧ Hid (fin c t.data.toList = fin d (t.data.toList.drop k)) ∧ Hid (cnt c t.data.toList = k + cnt d (t.data.toList.drop k)) ∧ Hid (Sts wr w.heap.size) ∧ Hid (Kp S w wr)) (fun i _ => t.size - (intOf i).toNat)
  case atStart =>
    have hb0 : Below w.heap.size w (w.alloc (.cells #[.nilFunc, .func (.func 183) #[] #[], .func (.func 184) #[] #[], .func (.func 185) #[] #[], .func (.func 186) #[] #[], .func (.func 187) #[] #[], .func (.func 188) #[] #[], .func (.func 189) #[] #[]] 181)) := (Below.refl _ w).alloc (Nat.le_refl _) _
    have hz0 : w.heap.size < (w.alloc (.cells #[.nilFunc, .func (.func 183) #[] #[], .func (.func 184) #[] #[], .func (.func 185) #[] #[], .func (.func 186) #[] #[], .func (.func 187) #[] #[], .func (.func 188) #[] #[], .func (.func 189) #[] #[]] 181)).heap.size := by simp
    refine ⟨0, c, rfl, Nat.zero_le _, hok, ⟨_, _, HV.out.more hb0 hz0⟩, ?_, ?_, ?_, Kp.of hb0 HV.out.sz⟩
    · show fin c t.data.toList = fin c (t.data.toList.drop 0); rw [List.drop_zero]
    · show cnt c t.data.toList = 0 + cnt c (t.data.toList.drop 0); rw [List.drop_zero, Nat.zero_add]
    · refine ⟨?_, ?_, ?_, ?_, ?_, ?_, ?_⟩ <;> (rw [World.cell?_alloc_mark]; rfl)
  case round =>
    obtain ⟨k, d, rfl, hk, hd, hE, hF, hC, hT, hB⟩ := hrel
    obtain ⟨vd1, vb1, hv1⟩ := hE.out
    have hc0 := hv1.c0
    have hbw : b < wr.heap.size := hv1.hi
    clear hv1
    by_cases hlt : k < t.size
    · by_cases h8 : 8 ≤ d.st
      · have h8' : ¬ d.st < 8 := by omega
        have e1 : cnt c t.data.toList = k := by rw [hC.out, cnt_stay h8]; rfl
        have e2 : fin c t.data.toList = d := by rw [hF.out, fin_stay h8]
        have HR : Hid _ := hE.out.less (T := S) (fun _ x => .inl x)
        rw [← e2] at HR
        have H1 : Hid (k = cnt c t.data.toList) := e1.symm
        clear e1 e2 hF hC hT hd hE
        go_wp2
        go_ret
        exact ⟨ret_nat H1.out, HR.out, hB.out⟩
      · have h8' : d.st < 8 := by omega
        obtain ⟨s1, s2, s3, s4, s5, s6, s7⟩ := hT.out
        have hnext : Hid (fin c t.data.toList = fin (eat1 d t[k]) (t.data.toList.drop (k + 1)) ∧ cnt c t.data.toList = (k + 1) + cnt (eat1 d t[k]) (t.data.toList.drop (k + 1))) := by
          refine ⟨?_, ?_⟩
          · rw [hF.out, drop_at hlt, fin_cons]
          · rw [hC.out, drop_at hlt, cnt_cons (by omega)]; omega
        have hok1 : Hid (okP (eat1 d t[k])) := ok_eat _ hd.out
        have hA : Hid (∀ w', Kp (fun j => S j ∨ j = w.heap.size) wr w' → Sts w' w.heap.size ∧ Kp S w w') := fun w' hk' => ⟨hT.out.kept (hk'.2.2.2.2 _ (.inr rfl)), hB.out.trans (hk'.less fun _ x => .inl x)⟩
        have hd0 := hd.out
        obtain ⟨⟨a1, a2⟩, ⟨b1, b2⟩, d1, e1, f1, g1, g2, g3, g4⟩ := hd0
        have hbd : d.bd.size ≤ 4000 := by omega
        rcases (show d.st = 1 ∨ d.st = 2 ∨ d.st = 3 ∨ d.st = 4 ∨ d.st = 5 ∨ d.st = 6 ∨ d.st = 7 by omega) with hs | hs | hs | hs | hs | hs | hs
        · have hm := ck_size (fun j => S j ∨ j = w.heap.size) b d t[k] wr.drew hE.out.drew hs hbd d1 f1
          rw [hs] at hc0
          clear hF hC hT hd hE hB b1 b2 d1 e1 f1 g1 g2 g3 g4 hbd a1 a2 h8 h8' s2 s3 s4 s5 s6 s7
          go_wp2
          go_region_with (go_at_call 183; refine hm.mono ?_; rintro e w1 ⟨rfl, hE1, hK1⟩)
          all_goals
            go_wp2
            go_roundw
            case rel => exact ⟨k + 1, _, by go_num, by omega, hok1, hE1, hnext.out.1, hnext.out.2, (hA.out _ hK1).1, (hA.out _ hK1).2⟩
            case measure => simp [intOf]; omega
        · have hm := ck_sizeEnd (fun j => S j ∨ j = w.heap.size) b d t[k] wr.drew hE.out.drew hs
          rw [hs] at hc0
          clear hF hC hT hd hE hB b1 b2 d1 e1 f1 g1 g2 g3 g4 hbd a1 a2 h8 h8' s1 s3 s4 s5 s6 s7
          go_wp2
          go_region_with (go_at_call 184; refine hm.mono ?_; rintro e w1 ⟨rfl, hE1, hK1⟩)
          all_goals
            go_wp2
            go_roundw
            case rel => exact ⟨k + 1, _, by go_num, by omega, hok1, hE1, hnext.out.1, hnext.out.2, (hA.out _ hK1).1, (hA.out _ hK1).2⟩
            case measure => simp [intOf]; omega
        · have hm := ck_data (fun j => S j ∨ j = w.heap.size) b d t[k] wr.drew hE.out.drew hs hbd b1 b2
          rw [hs] at hc0
          clear hF hC hT hd hE hB b1 b2 d1 e1 f1 g1 g2 g3 g4 hbd a1 a2 h8 h8' s1 s2 s4 s5 s6 s7
          go_wp2
          go_region_with (go_at_call 185; refine hm.mono ?_; rintro e w1 ⟨rfl, hE1, hK1⟩)
          all_goals
            go_wp2
            go_roundw
            case rel => exact ⟨k + 1, _, by go_num, by omega, hok1, hE1, hnext.out.1, hnext.out.2, (hA.out _ hK1).1, (hA.out _ hK1).2⟩
            case measure => simp [intOf]; omega
        · have hm := ck_dataEnd (fun j => S j ∨ j = w.heap.size) b d t[k] wr.drew hE.out.drew hs
          rw [hs] at hc0
          clear hF hC hT hd hE hB b1 b2 d1 e1 f1 g1 g2 g3 g4 hbd a1 a2 h8 h8' s1 s2 s3 s5 s6 s7
          go_wp2
          go_region_with (go_at_call 186; refine hm.mono ?_; rintro e w1 ⟨rfl, hE1, hK1⟩)
          all_goals
            go_wp2
            go_roundw
            case rel => exact ⟨k + 1, _, by go_num, by omega, hok1, hE1, hnext.out.1, hnext.out.2, (hA.out _ hK1).1, (hA.out _ hK1).2⟩
            case measure => simp [intOf]; omega
        · have hm := ck_dataLine (fun j => S j ∨ j = w.heap.size) b d t[k] wr.drew hE.out.drew hs
          rw [hs] at hc0
          clear hF hC hT hd hE hB b1 b2 d1 e1 f1 g1 g2 g3 g4 hbd a1 a2 h8 h8' s1 s2 s3 s4 s6 s7
          go_wp2
          go_region_with (go_at_call 187; refine hm.mono ?_; rintro e w1 ⟨rfl, hE1, hK1⟩)
          all_goals
            go_wp2
            go_roundw
            case rel => exact ⟨k + 1, _, by go_num, by omega, hok1, hE1, hnext.out.1, hnext.out.2, (hA.out _ hK1).1, (hA.out _ hK1).2⟩
            case measure => simp [intOf]; omega
        · have hm := ck_last (fun j => S j ∨ j = w.heap.size) b d t[k] wr.drew hE.out.drew hs
          rw [hs] at hc0
          clear hF hC hT hd hE hB b1 b2 d1 e1 f1 g1 g2 g3 g4 hbd a1 a2 h8 h8' s1 s2 s3 s4 s5 s7
          go_wp2
          go_region_with (go_at_call 188; refine hm.mono ?_; rintro e w1 ⟨rfl, hE1, hK1⟩)
          all_goals
            go_wp2
            go_roundw
            case rel => exact ⟨k + 1, _, by go_num, by omega, hok1, hE1, hnext.out.1, hnext.out.2, (hA.out _ hK1).1, (hA.out _ hK1).2⟩
            case measure => simp [intOf]; omega
        · have hm := ck_lastLine (fun j => S j ∨ j = w.heap.size) b d t[k] wr.drew hE.out.drew hs
          rw [hs] at hc0
          clear hF hC hT hd hE hB b1 b2 d1 e1 f1 g1 g2 g3 g4 hbd a1 a2 h8 h8' s1 s2 s3 s4 s5 s6
          go_wp2
          go_region_with (go_at_call 189; refine hm.mono ?_; rintro e w1 ⟨rfl, hE1, hK1⟩)
          all_goals
            go_wp2
            go_roundw
            case rel => exact ⟨k + 1, _, by go_num, by omega, hok1, hE1, hnext.out.1, hnext.out.2, (hA.out _ hK1).1, (hA.out _ hK1).2⟩
            case measure => simp [intOf]; omega
    · obtain rfl : k = t.size := by omega
      have e1 : cnt c t.data.toList = t.size := by rw [hC.out, drop_end hlt]; rfl
      have e2 : fin c t.data.toList = d := by rw [hF.out, drop_end hlt]; rfl
      have HR : Hid _ := hE.out.less (T := S) (fun _ x => .inl x)
      rw [← e2] at HR
      have H1 : Hid (t.size = cnt c t.data.toList) := e1.symm
      clear e1 e2 hF hC hT hd hE
      go_wp2
      go_ret
      exact ⟨ret_nat H1.out, HR.out, hB.out⟩
end Go.Proofs.YtmgmphkncgochaaGreatDoor
namespace Go.Proofs.YtmgmphkncgochaaGreatDoor
open Go.RowKit

/-- A reading that has just begun. -/
theorem etr_new (w : World) (c : Ck) (cap1 cap2 : Nat) (C1 C2 : Array Value) (S : Nat → Prop) (hS : ∀ k, S k → k < w.heap.size)
    (h1 : OwnsC (w.drew.alloc (.cells C1 5 (C1.size, C1.size + 1))) w.heap.size (.slice (some ⟨w.heap.size, 0, none⟩) c.dg.size cap1) c.dg.data.toList)
    (h2 : OwnsC ((w.drew.alloc (.cells C1 5 (C1.size, C1.size + 1))).drew.alloc (.cells C2 5 (C2.size, C2.size + 1))) (w.heap.size + 1) (.slice (some ⟨w.heap.size + 1, 0, none⟩) c.bd.size cap2) c.bd.data.toList) :
    Etr (((w.drew.alloc (.cells C1 5 (C1.size, C1.size + 1))).drew.alloc (.cells C2 5 (C2.size, C2.size + 1))).alloc (.cells #[.int .i64 c.st, .int .i64 c.lf, .slice (some ⟨w.heap.size, 0, none⟩) c.dg.size cap1, .slice (some ⟨w.heap.size + 1, 0, none⟩) c.bd.size cap2] 169)) S (w.heap.size + 2) c := by
  have z1 : (w.drew.alloc (.cells C1 5 (C1.size, C1.size + 1))).heap.size = w.heap.size + 1 := by simp
  have z2 : ((w.drew.alloc (.cells C1 5 (C1.size, C1.size + 1))).drew.alloc (.cells C2 5 (C2.size, C2.size + 1))).heap.size = w.heap.size + 2 := by simp
  have z3 : (((w.drew.alloc (.cells C1 5 (C1.size, C1.size + 1))).drew.alloc (.cells C2 5 (C2.size, C2.size + 1))).alloc (.cells #[.int .i64 c.st, .int .i64 c.lf, .slice (some ⟨w.heap.size, 0, none⟩) c.dg.size cap1, .slice (some ⟨w.heap.size + 1, 0, none⟩) c.bd.size cap2] 169)).heap.size = w.heap.size + 3 := by simp
  have k3 : ∀ k, (((w.drew.alloc (.cells C1 5 (C1.size, C1.size + 1))).drew.alloc (.cells C2 5 (C2.size, C2.size + 1))).alloc (.cells #[.int .i64 c.st, .int .i64 c.lf, .slice (some ⟨w.heap.size, 0, none⟩) c.dg.size cap1, .slice (some ⟨w.heap.size + 1, 0, none⟩) c.bd.size cap2] 169)).cell? ⟨w.heap.size + 2, k, none⟩ = (#[.int .i64 c.st, .int .i64 c.lf, .slice (some ⟨w.heap.size, 0, none⟩) c.dg.size cap1, .slice (some ⟨w.heap.size + 1, 0, none⟩) c.bd.size cap2] : Array Value)[k]? := fun k => by
    have := World.cell?_alloc_mark ((w.drew.alloc (.cells C1 5 (C1.size, C1.size + 1))).drew.alloc (.cells C2 5 (C2.size, C2.size + 1))) #[.int .i64 c.st, .int .i64 c.lf, .slice (some ⟨w.heap.size, 0, none⟩) c.dg.size cap1, .slice (some ⟨w.heap.size + 1, 0, none⟩) c.bd.size cap2] 169 (0, 0) k
    rw [z2] at this
    exact this
  refine ⟨_, _, {
    c0 := k3 0
    c1 := k3 1
    c2 := k3 2
    c3 := k3 3
    od := ?_
    ob := ?_
    nd := by simp [Value.ownBlock]
    nb := by simp [Value.ownBlock]
    ne := by right; simp [Value.ownBlock]
    fz := fun k => ?_
    lo := fun x => by have := hS _ x; omega
    sd := fun k hk x => by simp [Value.ownBlock] at hk; subst hk; have := hS _ x; omega
    sb := fun k hk x => by simp [Value.ownBlock] at hk; subst hk; have := hS _ x; omega
    sz := fun k x => by rw [z3]; have := hS k x; omega
    hi := by rw [z3]; omega }⟩
  · have e1 : OwnsC (w.drew.alloc (.cells C1 5 (C1.size, C1.size + 1))) 0 (.slice (some ⟨w.heap.size, 0, none⟩) c.dg.size cap1) c.dg.data.toList := by
      rcases h1 with x | ⟨g, cap, cur, fz, x1, x2, x3⟩
      · exact .inl x
      · exact .inr ⟨g, cap, cur, fz, x1, Nat.zero_le _, x3⟩
    refine e1.kept fun k hk => ?_
    simp [Value.ownBlock] at hk
    subst hk
    rw [Below.heap_alloc _ _ _ (by rw [z2]; omega)]
    exact Below.heap_alloc (w.drew.alloc (.cells C1 5 (C1.size, C1.size + 1))).drew _ _ (show w.heap.size < (w.drew.alloc (.cells C1 5 (C1.size, C1.size + 1))).heap.size by rw [z1]; omega)
  · have e1 : OwnsC ((w.drew.alloc (.cells C1 5 (C1.size, C1.size + 1))).drew.alloc (.cells C2 5 (C2.size, C2.size + 1))) 0 (.slice (some ⟨w.heap.size + 1, 0, none⟩) c.bd.size cap2) c.bd.data.toList := by
      rcases h2 with x | ⟨g, cap, cur, fz, x1, x2, x3⟩
      · exact .inl x
      · exact .inr ⟨g, cap, cur, fz, x1, Nat.zero_le _, x3⟩
    refine e1.kept fun k hk => ?_
    simp [Value.ownBlock] at hk
    subst hk
    rw [Below.heap_alloc _ _ _ (by rw [z2]; omega)]
  · have := World.frozen?_alloc_mark ((w.drew.alloc (.cells C1 5 (C1.size, C1.size + 1))).drew.alloc (.cells C2 5 (C2.size, C2.size + 1))) #[.int .i64 c.st, .int .i64 c.lf, .slice (some ⟨w.heap.size, 0, none⟩) c.dg.size cap1, .slice (some ⟨w.heap.size + 1, 0, none⟩) c.bd.size cap2] 169 0 0 k
    rw [z2] at this
    rw [this]
    simp

set_option maxHeartbeats 2000000 in
theorem implAll (c : Ck) (t : ByteArray) (w : World) (hz : c.dg.size ≤ 100000000) (hb : c.bd.size ≤ 100000000) (ht : t.size ≤ 100000000) :
    Calls Tryz.prog 145 #[ckV c, .string t] w fun e w' => e = .returned (.tuple #[ckV (allC c t.data.toList), .int .i64 (allN c t.data.toList : Int)]) ∧ Below w.heap.size w w' := by
  have hq := implOkC c ((w.alloc (.cells #[.int .i64 c.st, .int .i64 c.lf, .string c.dg, .string c.bd] 137)).alloc (.cells #[.int .i64 0, .int .i64 0, .string ⟨#[]⟩, .string ⟨#[]⟩] 137)) hz hb
  have hb0 : Hid (Below w.heap.size w ((w.alloc (.cells #[.int .i64 c.st, .int .i64 c.lf, .string c.dg, .string c.bd] 137)).alloc (.cells #[.int .i64 0, .int .i64 0, .string ⟨#[]⟩, .string ⟨#[]⟩] 137))) := ((Below.refl _ w).alloc (Nat.le_refl _) _).alloc (by simp) _
  have hz0 : ((w.alloc (.cells #[.int .i64 c.st, .int .i64 c.lf, .string c.dg, .string c.bd] 137)).alloc (.cells #[.int .i64 0, .int .i64 0, .string ⟨#[]⟩, .string ⟨#[]⟩] 137)).heap.size = w.heap.size + 2 := by simp
  have hA : Hid (Four ((w.alloc (.cells #[.int .i64 c.st, .int .i64 c.lf, .string c.dg, .string c.bd] 137)).alloc (.cells #[.int .i64 0, .int .i64 0, .string ⟨#[]⟩, .string ⟨#[]⟩] 137)) w.heap.size c) := (Four.new w c).alloc _
  have hR : Hid (Four ((w.alloc (.cells #[.int .i64 c.st, .int .i64 c.lf, .string c.dg, .string c.bd] 137)).alloc (.cells #[.int .i64 0, .int .i64 0, .string ⟨#[]⟩, .string ⟨#[]⟩] 137)) (w.heap.size + 1) zeroC) := by
    have := Four.new (w.alloc (.cells #[.int .i64 c.st, .int .i64 c.lf, .string c.dg, .string c.bd] 137)) zeroC
    rw [show (w.alloc (.cells #[.int .i64 c.st, .int .i64 c.lf, .string c.dg, .string c.bd] 137)).heap.size = w.heap.size + 1 by simp] at this
    exact this
  by_cases hok : okC c = true
  · rw [allC_yes hok, allN_yes hok]
    rw [hok] at hq
    unfold ckV at hq ⊢
    generalize hfd : fin c t.data.toList = d
    generalize hcn : cnt c t.data.toList = n
    have HFD : Hid _ := hfd
    have HCN : Hid _ := hcn
    clear hfd hcn
    go_enter Tryz.func145, Tryz.ntmps145
    go_wp2_with fail
    refine hq.mono ?_
    rintro e w1 ⟨rfl, hb1⟩
    have hA1 := hA.out.kept hb1 hA.out.hi
    have hR1 := hR.out.kept hb1 hR.out.hi
    have hB1 : Hid (Below w.heap.size w w1) := hb0.out.trans (hb1.mono hb0.out.size)
    have hz1 : w.heap.size + 2 ≤ w1.heap.size := by have := hb1.size; omega
    clear hq hA hR hb0 hz0 hb1
    obtain ⟨cap1, C1, hcv1, ho1⟩ := row_of w1 c.dg (by have := (okC_is hok).2.2.1; omega)
    obtain ⟨cap2, C2, hcv2, ho2⟩ := row_of (w1.drew.alloc (.cells C1 5 (C1.size, C1.size + 1))) c.bd (by have := (okC_is hok).2.2.2.1; have := (okC_is hok).2.1.1; omega)
    have zz : (w1.drew.alloc (.cells C1 5 (C1.size, C1.size + 1))).heap.size = w1.heap.size + 1 := by simp
    rw [zz] at hcv2 ho2
    have hcv3 : (convert 9 22 (.string c.bd)).run Tryz.prog (w1.alloc (.cells C1 5 (C1.size, C1.size + 1))).drew = .ok (.slice (some ⟨w1.heap.size + 1, 0, none⟩) c.bd.size cap2) ((w1.drew.alloc (.cells C1 5 (C1.size, C1.size + 1))).drew.alloc (.cells C2 5 (C2.size, C2.size + 1))) := hcv2
    clear hcv2
    have hN : Hid _ := etr_new w1 c cap1 cap2 C1 C2 (fun k => k < w1.heap.size) (fun _ x => x) ho1 ho2
    have hB2 : Hid (Below w1.heap.size w1 (((w1.drew.alloc (.cells C1 5 (C1.size, C1.size + 1))).drew.alloc (.cells C2 5 (C2.size, C2.size + 1))).alloc (.cells #[.int .i64 c.st, .int .i64 c.lf, .slice (some ⟨w1.heap.size, 0, none⟩) c.dg.size cap1, .slice (some ⟨w1.heap.size + 1, 0, none⟩) c.bd.size cap2] 169))) := by
      have a1 : Below w1.heap.size w1 (w1.drew.alloc (.cells C1 5 (C1.size, C1.size + 1))) := (show Below w1.heap.size w1 w1.drew from ⟨rfl, rfl, rfl, Nat.le_refl _, fun _ _ => rfl⟩).alloc (Nat.le_refl _) _
      have a2 : Below w1.heap.size w1 (w1.drew.alloc (.cells C1 5 (C1.size, C1.size + 1))).drew := ⟨a1.os, a1.tape, a1.output, a1.size, a1.block⟩
      exact (a2.alloc a2.size _).alloc (a2.alloc a2.size _).size _
    have a0 := hA1.c0
    have a1 := hA1.c1
    have a2 := hA1.c2
    have a3 := hA1.c3
    clear ho1 ho2 zz
    have hlt1 : w.heap.size < w1.heap.size := by omega
    have hE : Calls Tryz.prog 165 #[.pointer (some ⟨w1.heap.size + 1 + 1, 0, none⟩), .string t] (((w1.alloc (.cells C1 5 (C1.size, C1.size + 1))).alloc (.cells C2 5 (C2.size, C2.size + 1))).alloc (.cells #[.int .i64 c.st, .int .i64 c.lf, .slice (some ⟨w1.heap.size, 0, none⟩) c.dg.size cap1, .slice (some ⟨w1.heap.size + 1, 0, none⟩) c.bd.size cap2] 169)).drew.drew
        fun e w' => e = .returned (.int .i64 (cnt c t.data.toList : Int)) ∧ Etr w' (fun k => k < w1.heap.size) (w1.heap.size + 1 + 1) (fin c t.data.toList) ∧ Kp (fun k => k < w1.heap.size) (((w1.alloc (.cells C1 5 (C1.size, C1.size + 1))).alloc (.cells C2 5 (C2.size, C2.size + 1))).alloc (.cells #[.int .i64 c.st, .int .i64 c.lf, .slice (some ⟨w1.heap.size, 0, none⟩) c.dg.size cap1, .slice (some ⟨w1.heap.size + 1, 0, none⟩) c.bd.size cap2] 169)).drew.drew w' := ck_eat (fun k => k < w1.heap.size) (w1.heap.size + 2) c t _ hN.out (okC_is hok) ht
    have hB3 : Hid (Below w1.heap.size w1 (((w1.alloc (.cells C1 5 (C1.size, C1.size + 1))).alloc (.cells C2 5 (C2.size, C2.size + 1))).alloc (.cells #[.int .i64 c.st, .int .i64 c.lf, .slice (some ⟨w1.heap.size, 0, none⟩) c.dg.size cap1, .slice (some ⟨w1.heap.size + 1, 0, none⟩) c.bd.size cap2] 169)).drew.drew) := hB2.out
    rw [show fin c t.data.toList = d from HFD.out, show cnt c t.data.toList = n from HCN.out] at hE
    clear hN hB2 HFD HCN
    go_wp2_with fail
    refine hE.mono ?_
    rintro e w2 ⟨rfl, hE2, hK2⟩
    have hb2 : Below w1.heap.size w1 w2 := hB3.out.trans (hK2.below)
    have hR2 := hR1.kept hb2 (by omega)
    have hB4 : Hid (Below w.heap.size w w2) := hB1.out.trans (hb2.mono (by omega))
    obtain ⟨vd, vb, hv⟩ := hE2
    have e0 := hv.c0
    have e1 := hv.c1
    have e2 := hv.c2
    have e3 := hv.c3
    have cv1 := hv.dtext
    have cv2 := hv.btext
    have r0 := hR2.c0
    have r1 := hR2.c1
    have r2 := hR2.c2
    have r3 := hR2.c3
    have rf := hR2.fz
    clear hE hB3 hB1 hb2 hK2 hv hR2 hR1 hA1 a0 a1 a2 a3 hcv1 hcv3
    go_wp2
    refine bodyPost_ret (v := .tuple #[.agg #[.int .i64 d.st, .int .i64 d.lf, .string d.dg, .string d.bd], .int .i64 n]) (by simp [results, Tryz.results145, go_sem, r0, r1, r2, r3]) rfl ?_
    exact ⟨rfl, (((hB4.out.setCell (by simp) _).setCell (by simp) _).setCell (by simp) _).setCell (by simp) _⟩
  · have hok' : okC c = false := by simpa using hok
    rw [allC_no hok', allN_no hok']
    rw [hok'] at hq
    unfold ckV at hq ⊢
    go_enter Tryz.func145, Tryz.ntmps145
    go_wp2_with fail
    refine hq.mono ?_
    rintro e w1 ⟨rfl, hb1⟩
    have hR1 := hR.out.kept hb1 hR.out.hi
    have r0 := hR1.c0
    have r1 := hR1.c1
    have r2 := hR1.c2
    have r3 := hR1.c3
    have rf := hR1.fz
    have hB1 : Hid (Below w.heap.size w w1) := hb0.out.trans (hb1.mono hb0.out.size)
    clear hq hA hR hb0 hz0 hb1 hR1
    go_wp2
    refine bodyPost_ret (v := .tuple #[.agg #[.int .i64 0, .int .i64 0, .string ⟨#[]⟩, .string ⟨#[]⟩], .int .i64 0]) (by simp [results, Tryz.results145, go_sem, r0, r1, r2, r3]) rfl ?_
    exact ⟨rfl, (((hB1.out.setCell (by simp) _).setCell (by simp) _).setCell (by simp) _).setCell (by simp) _⟩

set_option maxHeartbeats 1000000 in
theorem implUn (t : ByteArray) (w : World) (ht : t.size ≤ 100000000) :
    Calls Tryz.prog 125 #[.string t] w fun e w' => e = .returned (unV t.data.toList) ∧ Below w.heap.size w w' := by
  have hk : okC (ck0 ⟨#[]⟩) = true := okC_yes (ok_ck0 (by show 0 ≤ 4000; omega))
  have hq := implAll (ck0 ⟨#[]⟩) t w (by show 0 ≤ 100000000; omega) (by show 0 ≤ 100000000; omega) ht
  rw [allC_yes hk, allN_yes hk] at hq
  have hq' : Calls Tryz.prog 145 #[.agg #[.int .i64 1, .int .i64 0, .string ⟨#[]⟩, .string ⟨#[]⟩], .string t] w fun e w' => e = .returned (.tuple #[ckV (unF t.data.toList), .int .i64 (unN t.data.toList : Int)]) ∧ Below w.heap.size w w' := hq
  unfold ckV at hq'
  clear hq hk
  by_cases h8 : (unF t.data.toList).st = 8
  · rw [unV_yes h8]
    rw [h8] at hq'
    generalize unF t.data.toList = d at hq' ⊢
    generalize unN t.data.toList = n at hq' ⊢
    clear h8
    go_enter Tryz.func125, Tryz.ntmps125
    go_wp2_with (go_at_call 145; refine hq'.mono ?_; rintro e w2 ⟨rfl, hb2⟩)
    go_ret3
    exact ⟨rfl, hb2.alloc hb2.size _⟩
  · rw [unV_no h8]
    generalize unF t.data.toList = d at hq' h8 ⊢
    generalize unN t.data.toList = n at hq' ⊢
    go_enter Tryz.func125, Tryz.ntmps125
    go_wp2_with (go_at_call 145; refine hq'.mono ?_; rintro e w2 ⟨rfl, hb2⟩)
    go_ret3
    exact ⟨rfl, hb2.alloc hb2.size _⟩
end Go.Proofs.YtmgmphkncgochaaGreatDoor

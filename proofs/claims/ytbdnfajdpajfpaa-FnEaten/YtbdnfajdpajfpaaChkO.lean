/-
  The program's reading of chunks, all bytes of a text eaten in a loop: its contract.
-/
import Derived.Test.YtbdnfajdpajfpaaChkN
import Derived.Deep.RegionWith
import Derived.Laws.EntriesVeiled
namespace Go.Proofs.Ytbdnfajdpajfpaa
open Go.RowKit

theorem drop_at {t : ByteArray} {k : Nat} (h : k < t.size) : t.data.toList.drop k = t[k] :: t.data.toList.drop (k + 1) := by
  rw [List.drop_eq_getElem_cons (by simpa using h)]
  rfl
theorem drop_end {t : ByteArray} {k : Nat} (h : ¬ k < t.size) : t.data.toList.drop k = [] := List.drop_of_length_le (by have := len_list t; omega)
/-- The methods in the array of states. -/
def Sts (w : World) (A : Nat) : Prop := w.cell? ⟨A, 1, none⟩ = some (.func (.func 40) #[] #[]) ∧ w.cell? ⟨A, 2, none⟩ = some (.func (.func 41) #[] #[]) ∧ w.cell? ⟨A, 3, none⟩ = some (.func (.func 42) #[] #[]) ∧ w.cell? ⟨A, 4, none⟩ = some (.func (.func 43) #[] #[]) ∧ w.cell? ⟨A, 5, none⟩ = some (.func (.func 44) #[] #[]) ∧ w.cell? ⟨A, 6, none⟩ = some (.func (.func 45) #[] #[]) ∧ w.cell? ⟨A, 7, none⟩ = some (.func (.func 46) #[] #[])
theorem Sts.kept {w w' : World} {A : Nat} (h : Sts w A) (hA : w'.heap[A]? = w.heap[A]?) : Sts w' A := by
  have c : ∀ k, w'.cell? ⟨A, k, none⟩ = w.cell? ⟨A, k, none⟩ := fun k => World.cell?_of_block (a := ⟨A, k, none⟩) hA
  obtain ⟨h1, h2, h3, h4, h5, h6, h7⟩ := h
  exact ⟨(c 1).trans h1, (c 2).trans h2, (c 3).trans h3, (c 4).trans h4, (c 5).trans h5, (c 6).trans h6, (c 7).trans h7⟩
theorem EtrV.more {w : World} {S : Nat → Prop} {b : Nat} {c : Ck} {vd vb : Value} (h : EtrV w S b c vd vb) {w' : World} (hb : Below w.heap.size w w') (hz : w.heap.size < w'.heap.size) : EtrV w' (fun k => S k ∨ k = w.heap.size) b c vd vb := by
  have h' := h.kept hb
  exact {
    c0 := h'.c0
    c1 := h'.c1
    c2 := h'.c2
    c3 := h'.c3
    od := h'.od
    ob := h'.ob
    nd := h'.nd
    nb := h'.nb
    ne := h'.ne
    fz := h'.fz
    lo := fun x => by rcases x with x | x; exact h.lo x; have := h.hi; omega
    sd := fun k hk x => by rcases x with x | x; exact h.sd k hk x; have := (h.od.lt k hk).2; omega
    sb := fun k hk x => by rcases x with x | x; exact h.sb k hk x; have := (h.ob.lt k hk).2; omega
    sz := fun k x => by rcases x with x | x; exact h'.sz k x; omega
    hi := h'.hi }
theorem Etr.less {w : World} {S T : Nat → Prop} {b : Nat} {c : Ck} (h : Etr w S b c) (hT : ∀ k, T k → S k) : Etr w T b c := by
  obtain ⟨vd, vb, h⟩ := h
  exact ⟨vd, vb, {
    c0 := h.c0
    c1 := h.c1
    c2 := h.c2
    c3 := h.c3
    od := h.od
    ob := h.ob
    nd := h.nd
    nb := h.nb
    ne := h.ne
    fz := h.fz
    lo := fun x => h.lo (hT _ x)
    sd := fun k hk x => h.sd k hk (hT _ x)
    sb := fun k hk x => h.sb k hk (hT _ x)
    sz := fun k x => h.sz k (hT _ x)
    hi := h.hi }⟩
theorem Etr.drew {w : World} {S : Nat → Prop} {b : Nat} {c : Ck} (h : Etr w S b c) : Etr w.drew S b c := by
  obtain ⟨vd, vb, h⟩ := h
  exact ⟨vd, vb, ⟨h.c0, h.c1, h.c2, h.c3, h.od, h.ob, h.nd, h.nb, h.ne, h.fz, h.lo, h.sd, h.sb, h.sz, h.hi⟩⟩
theorem ret_nat {a b : Nat} (h : a = b) : Ending.returned (.int .i64 (a : Int)) = .returned (.int .i64 (b : Int)) := by rw [h]

set_option maxHeartbeats 4000000 in
set_option maxRecDepth 100000 in
theorem ck_eat (S : Nat → Prop) (b : Nat) (c : Ck) (t : ByteArray) (w : World) (h : Etr w S b c) (hok : okP c) (ht : t.size ≤ 100000000) :
    Calls Try.prog 33 #[.pointer (some ⟨b, 0, none⟩), .string t] w fun e w' => e = .returned (.int .i64 (cnt c t.data.toList : Int)) ∧ Etr w' S b (fin c t.data.toList) ∧ Kp S w w' := by
  obtain ⟨vd, vb, hv⟩ := h
  have HV : Hid _ := hv
  clear hv
  go_enter Try.func33, Try.ntmps33
  go_wp2
  go_loopw [6] (fun i wr => ∃ (k : Nat) (d : Ck), i = .int .i64 k ∧ k ≤ t.size ∧ Hid (okP d) ∧ Hid (Etr wr (fun j => S j ∨ j = w.heap.size) b d) ∧ Hid (fin c t.data.toList = fin d (t.data.toList.drop k)) ∧ Hid (cnt c t.data.toList = k + cnt d (t.data.toList.drop k)) ∧ Hid (Sts wr w.heap.size) ∧ Hid (Kp S w wr)) (fun i _ => t.size - (intOf i).toNat)
  case atStart =>
    have hb0 : Below w.heap.size w (w.alloc (.cells #[.nilFunc, .func (.func 40) #[] #[], .func (.func 41) #[] #[], .func (.func 42) #[] #[], .func (.func 43) #[] #[], .func (.func 44) #[] #[], .func (.func 45) #[] #[], .func (.func 46) #[] #[]] 70)) := (Below.refl _ w).alloc (Nat.le_refl _) _
    have hz0 : w.heap.size < (w.alloc (.cells #[.nilFunc, .func (.func 40) #[] #[], .func (.func 41) #[] #[], .func (.func 42) #[] #[], .func (.func 43) #[] #[], .func (.func 44) #[] #[], .func (.func 45) #[] #[], .func (.func 46) #[] #[]] 70)).heap.size := by simp
    refine ⟨0, c, rfl, Nat.zero_le _, hok, ⟨_, _, HV.out.more hb0 hz0⟩, ?_, ?_, ?_, Kp.of hb0 HV.out.sz⟩
    · show fin c t.data.toList = fin c (t.data.toList.drop 0); rw [List.drop_zero]
    · show cnt c t.data.toList = 0 + cnt c (t.data.toList.drop 0); rw [List.drop_zero, Nat.zero_add]
    · refine ⟨?_, ?_, ?_, ?_, ?_, ?_, ?_⟩ <;> (rw [World.cell?_alloc_mark]; rfl)
  case round =>
    obtain ⟨k, d, rfl, hk, hd, hE, hF, hC, hT, hB⟩ := hrel
    obtain ⟨vd1, vb1, hv1⟩ := hE.out
    have hc0 := hv1.c0
    have hbw : b < wr.heap.size := hv1.hi
    clear hv1
    by_cases hlt : k < t.size
    · by_cases h8 : 8 ≤ d.st
      · have h8' : ¬ d.st < 8 := by omega
        have e1 : cnt c t.data.toList = k := by rw [hC.out, cnt_stay h8]; rfl
        have e2 : fin c t.data.toList = d := by rw [hF.out, fin_stay h8]
        have HR : Hid _ := hE.out.less (T := S) (fun _ x => .inl x)
        rw [← e2] at HR
        have H1 : Hid (k = cnt c t.data.toList) := e1.symm
        clear e1 e2 hF hC hT hd hE
        go_wp2
        go_ret
        exact ⟨ret_nat H1.out, HR.out, hB.out⟩
      · have h8' : d.st < 8 := by omega
        obtain ⟨s1, s2, s3, s4, s5, s6, s7⟩ := hT.out
        have hnext : Hid (fin c t.data.toList = fin (eat1 d t[k]) (t.data.toList.drop (k + 1)) ∧ cnt c t.data.toList = (k + 1) + cnt (eat1 d t[k]) (t.data.toList.drop (k + 1))) := by
          refine ⟨?_, ?_⟩
          · rw [hF.out, drop_at hlt, fin_cons]
          · rw [hC.out, drop_at hlt, cnt_cons (by omega)]; omega
        have hok1 : Hid (okP (eat1 d t[k])) := ok_eat _ hd.out
        have hA : Hid (∀ w', Kp (fun j => S j ∨ j = w.heap.size) wr w' → Sts w' w.heap.size ∧ Kp S w w') := fun w' hk' => ⟨hT.out.kept (hk'.2.2.2.2 _ (.inr rfl)), hB.out.trans (hk'.less fun _ x => .inl x)⟩
        have hd0 := hd.out
        obtain ⟨⟨a1, a2⟩, ⟨b1, b2⟩, d1, e1, f1, g1, g2, g3, g4⟩ := hd0
        have hbd : d.bd.size ≤ 4000 := by omega
        rcases (show d.st = 1 ∨ d.st = 2 ∨ d.st = 3 ∨ d.st = 4 ∨ d.st = 5 ∨ d.st = 6 ∨ d.st = 7 by omega) with hs | hs | hs | hs | hs | hs | hs
        · have hm := ck_size (fun j => S j ∨ j = w.heap.size) b d t[k] wr.drew hE.out.drew hs hbd d1 f1
          rw [hs] at hc0
          clear hF hC hT hd hE hB b1 b2 d1 e1 f1 g1 g2 g3 g4 hbd a1 a2 h8 h8' s2 s3 s4 s5 s6 s7
          go_wp2
          go_region_with (go_at_call 40; refine hm.mono ?_; rintro e w1 ⟨rfl, hE1, hK1⟩)
          all_goals
            go_wp2
            go_roundw
            case rel => exact ⟨k + 1, _, by go_num, by omega, hok1, hE1, hnext.out.1, hnext.out.2, (hA.out _ hK1).1, (hA.out _ hK1).2⟩
            case measure => simp [intOf]; omega
        · have hm := ck_sizeEnd (fun j => S j ∨ j = w.heap.size) b d t[k] wr.drew hE.out.drew hs
          rw [hs] at hc0
          clear hF hC hT hd hE hB b1 b2 d1 e1 f1 g1 g2 g3 g4 hbd a1 a2 h8 h8' s1 s3 s4 s5 s6 s7
          go_wp2
          go_region_with (go_at_call 41; refine hm.mono ?_; rintro e w1 ⟨rfl, hE1, hK1⟩)
          all_goals
            go_wp2
            go_roundw
            case rel => exact ⟨k + 1, _, by go_num, by omega, hok1, hE1, hnext.out.1, hnext.out.2, (hA.out _ hK1).1, (hA.out _ hK1).2⟩
            case measure => simp [intOf]; omega
        · have hm := ck_data (fun j => S j ∨ j = w.heap.size) b d t[k] wr.drew hE.out.drew hs hbd b1 b2
          rw [hs] at hc0
          clear hF hC hT hd hE hB b1 b2 d1 e1 f1 g1 g2 g3 g4 hbd a1 a2 h8 h8' s1 s2 s4 s5 s6 s7
          go_wp2
          go_region_with (go_at_call 42; refine hm.mono ?_; rintro e w1 ⟨rfl, hE1, hK1⟩)
          all_goals
            go_wp2
            go_roundw
            case rel => exact ⟨k + 1, _, by go_num, by omega, hok1, hE1, hnext.out.1, hnext.out.2, (hA.out _ hK1).1, (hA.out _ hK1).2⟩
            case measure => simp [intOf]; omega
        · have hm := ck_dataEnd (fun j => S j ∨ j = w.heap.size) b d t[k] wr.drew hE.out.drew hs
          rw [hs] at hc0
          clear hF hC hT hd hE hB b1 b2 d1 e1 f1 g1 g2 g3 g4 hbd a1 a2 h8 h8' s1 s2 s3 s5 s6 s7
          go_wp2
          go_region_with (go_at_call 43; refine hm.mono ?_; rintro e w1 ⟨rfl, hE1, hK1⟩)
          all_goals
            go_wp2
            go_roundw
            case rel => exact ⟨k + 1, _, by go_num, by omega, hok1, hE1, hnext.out.1, hnext.out.2, (hA.out _ hK1).1, (hA.out _ hK1).2⟩
            case measure => simp [intOf]; omega
        · have hm := ck_dataLine (fun j => S j ∨ j = w.heap.size) b d t[k] wr.drew hE.out.drew hs
          rw [hs] at hc0
          clear hF hC hT hd hE hB b1 b2 d1 e1 f1 g1 g2 g3 g4 hbd a1 a2 h8 h8' s1 s2 s3 s4 s6 s7
          go_wp2
          go_region_with (go_at_call 44; refine hm.mono ?_; rintro e w1 ⟨rfl, hE1, hK1⟩)
          all_goals
            go_wp2
            go_roundw
            case rel => exact ⟨k + 1, _, by go_num, by omega, hok1, hE1, hnext.out.1, hnext.out.2, (hA.out _ hK1).1, (hA.out _ hK1).2⟩
            case measure => simp [intOf]; omega
        · have hm := ck_last (fun j => S j ∨ j = w.heap.size) b d t[k] wr.drew hE.out.drew hs
          rw [hs] at hc0
          clear hF hC hT hd hE hB b1 b2 d1 e1 f1 g1 g2 g3 g4 hbd a1 a2 h8 h8' s1 s2 s3 s4 s5 s7
          go_wp2
          go_region_with (go_at_call 45; refine hm.mono ?_; rintro e w1 ⟨rfl, hE1, hK1⟩)
          all_goals
            go_wp2
            go_roundw
            case rel => exact ⟨k + 1, _, by go_num, by omega, hok1, hE1, hnext.out.1, hnext.out.2, (hA.out _ hK1).1, (hA.out _ hK1).2⟩
            case measure => simp [intOf]; omega
        · have hm := ck_lastLine (fun j => S j ∨ j = w.heap.size) b d t[k] wr.drew hE.out.drew hs
          rw [hs] at hc0
          clear hF hC hT hd hE hB b1 b2 d1 e1 f1 g1 g2 g3 g4 hbd a1 a2 h8 h8' s1 s2 s3 s4 s5 s6
          go_wp2
          go_region_with (go_at_call 46; refine hm.mono ?_; rintro e w1 ⟨rfl, hE1, hK1⟩)
          all_goals
            go_wp2
            go_roundw
            case rel => exact ⟨k + 1, _, by go_num, by omega, hok1, hE1, hnext.out.1, hnext.out.2, (hA.out _ hK1).1, (hA.out _ hK1).2⟩
            case measure => simp [intOf]; omega
    · obtain rfl : k = t.size := by omega
      have e1 : cnt c t.data.toList = t.size := by rw [hC.out, drop_end hlt]; rfl
      have e2 : fin c t.data.toList = d := by rw [hF.out, drop_end hlt]; rfl
      have HR : Hid _ := hE.out.less (T := S) (fun _ x => .inl x)
      rw [← e2] at HR
      have H1 : Hid (t.size = cnt c t.data.toList) := e1.symm
      clear e1 e2 hF hC hT hd hE
      go_wp2
      go_ret
      exact ⟨ret_nat H1.out, HR.out, hB.out⟩
end Go.Proofs.Ytbdnfajdpajfpaa

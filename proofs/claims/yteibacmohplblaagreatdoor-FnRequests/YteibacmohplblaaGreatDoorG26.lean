/-
  The program's reading of chunks, all bytes of a text eaten in a loop: its contract.
  The program's EatAll, Eat and Unchunked by their contracts.
  The program's reader by its contracts: the first line of a response.
-/
import Derived.Test.YteibacmohplblaaGreatDoorG25
import Derived.Deep.RegionWith
import Derived.Laws.EntriesVeiled
import Derived.Test.YteibacmohplblaaGreatDoorG19
import Derived.Test.YteibacmohplblaaGreatDoorG20
import Derived.Test.YteibacmohplblaaGreatDoorG24
namespace Go.Proofs.YteibacmohplblaaGreatDoor
open Go.RowKit

theorem drop_at {t : ByteArray} {k : Nat} (h : k < t.size) : t.data.toList.drop k = t[k] :: t.data.toList.drop (k + 1) := by
  rw [List.drop_eq_getElem_cons (by simpa using h)]
  rfl
theorem drop_end {t : ByteArray} {k : Nat} (h : ¬ k < t.size) : t.data.toList.drop k = [] := List.drop_of_length_le (by have := len_list t; omega)
/-- The methods in the array of states. -/
def Sts (w : World) (A : Nat) : Prop := w.cell? ⟨A, 1, none⟩ = some (.func (.func 184) #[] #[]) ∧ w.cell? ⟨A, 2, none⟩ = some (.func (.func 185) #[] #[]) ∧ w.cell? ⟨A, 3, none⟩ = some (.func (.func 186) #[] #[]) ∧ w.cell? ⟨A, 4, none⟩ = some (.func (.func 187) #[] #[]) ∧ w.cell? ⟨A, 5, none⟩ = some (.func (.func 188) #[] #[]) ∧ w.cell? ⟨A, 6, none⟩ = some (.func (.func 189) #[] #[]) ∧ w.cell? ⟨A, 7, none⟩ = some (.func (.func 190) #[] #[])
theorem Sts.kept {w w' : World} {A : Nat} (h : Sts w A) (hA : w'.heap[A]? = w.heap[A]?) : Sts w' A := by
  have c : ∀ k, w'.cell? ⟨A, k, none⟩ = w.cell? ⟨A, k, none⟩ := fun k => World.cell?_of_block (a := ⟨A, k, none⟩) hA
  obtain ⟨h1, h2, h3, h4, h5, h6, h7⟩ := h
  exact ⟨(c 1).trans h1, (c 2).trans h2, (c 3).trans h3, (c 4).trans h4, (c 5).trans h5, (c 6).trans h6, (c 7).trans h7⟩
theorem EtrV.more {w : World} {S : Nat → Prop} {b : Nat} {c : Ck} {vd vb : Value} (h : EtrV w S b c vd vb) {w' : World} (hb : Below w.heap.size w w') (hz : w.heap.size < w'.heap.size) : EtrV w' (fun k => S k ∨ k = w.heap.size) b c vd vb := by
  have h' := h.kept hb
  exact {
    c0 := h'.c0
    c1 := h'.c1
    c2 := h'.c2
    c3 := h'.c3
    od := h'.od
    ob := h'.ob
    nd := h'.nd
    nb := h'.nb
    ne := h'.ne
    fz := h'.fz
    lo := fun x => by rcases x with x | x; exact h.lo x; have := h.hi; omega
    sd := fun k hk x => by rcases x with x | x; exact h.sd k hk x; have := (h.od.lt k hk).2; omega
    sb := fun k hk x => by rcases x with x | x; exact h.sb k hk x; have := (h.ob.lt k hk).2; omega
    sz := fun k x => by rcases x with x | x; exact h'.sz k x; omega
    hi := h'.hi }
theorem Etr.less {w : World} {S T : Nat → Prop} {b : Nat} {c : Ck} (h : Etr w S b c) (hT : ∀ k, T k → S k) : Etr w T b c := by
  obtain ⟨vd, vb, h⟩ := h
  exact ⟨vd, vb, {
    c0 := h.c0
    c1 := h.c1
    c2 := h.c2
    c3 := h.c3
    od := h.od
    ob := h.ob
    nd := h.nd
    nb := h.nb
    ne := h.ne
    fz := h.fz
    lo := fun x => h.lo (hT _ x)
    sd := fun k hk x => h.sd k hk (hT _ x)
    sb := fun k hk x => h.sb k hk (hT _ x)
    sz := fun k x => h.sz k (hT _ x)
    hi := h.hi }⟩
theorem Etr.drew {w : World} {S : Nat → Prop} {b : Nat} {c : Ck} (h : Etr w S b c) : Etr w.drew S b c := by
  obtain ⟨vd, vb, h⟩ := h
  exact ⟨vd, vb, ⟨h.c0, h.c1, h.c2, h.c3, h.od, h.ob, h.nd, h.nb, h.ne, h.fz, h.lo, h.sd, h.sb, h.sz, h.hi⟩⟩
theorem ret_nat {a b : Nat} (h : a = b) : Ending.returned (.int .i64 (a : Int)) = .returned (.int .i64 (b : Int)) := by rw [h]

set_option maxHeartbeats 4000000 in
set_option maxRecDepth 100000 in
theorem ck_eat (S : Nat → Prop) (b : Nat) (c : Ck) (t : ByteArray) (w : World) (h : Etr w S b c) (hok : okP c) (ht : t.size ≤ 100000000) :
    Calls Tryz.prog 166 #[.pointer (some ⟨b, 0, none⟩), .string t] w fun e w' => e = .returned (.int .i64 (cnt c t.data.toList : Int)) ∧ Etr w' S b (fin c t.data.toList) ∧ Kp S w w' := by
  obtain ⟨vd, vb, hv⟩ := h
  have HV : Hid _ := hv
  clear hv
  go_enter Tryz.func166, Tryz.ntmps166
  go_wp2
  go_loopw [6] (fun i wr => ∃ (k : Nat) (d : Ck), i = .int .i64 k ∧ k ≤ t.size ∧ Hid (okP d) ∧ Hid (Etr wr (fun j => S j ∨ j = w.heap.size) b d) ∧ Hid (fin c t.data.toList = fin d (t.data.toList.drop k)) ∧ Hid (cnt c t.data.toList = k + cnt d (t.data.toList.drop k)) ∧ Hid (Sts wr w.heap.size) ∧ Hid (Kp S w wr)) (fun i _ => t.size - (intOf i).toNat)
  case atStart =>
    have hb0 : Below w.heap.size w (w.alloc (.cells #[.nilFunc, .func (.func 184) #[] #[], .func (.func 185) #[] #[], .func (.func 186) #[] #[], .func (.func 187) #[] #[], .func (.func 188) #[] #[], .func (.func 189) #[] #[], .func (.func 190) #[] #[]] 182)) := (Below.refl _ w).alloc (Nat.le_refl _) _
    have hz0 : w.heap.size < (w.alloc (.cells #[.nilFunc, .func (.func 184) #[] #[], .func (.func 185) #[] #[], .func (.func 186) #[] #[], .func (.func 187) #[] #[], .func (.func 188) #[] #[], .func (.func 189) #[] #[], .func (.func 190) #[] #[]] 182)).heap.size := by simp
    refine ⟨0, c, rfl, Nat.zero_le _, hok, ⟨_, _, HV.out.more hb0 hz0⟩, ?_, ?_, ?_, Kp.of hb0 HV.out.sz⟩
    · show fin c t.data.toList = fin c (t.data.toList.drop 0); rw [List.drop_zero]
    · show cnt c t.data.toList = 0 + cnt c (t.data.toList.drop 0); rw [List.drop_zero, Nat.zero_add]
    · refine ⟨?_, ?_, ?_, ?_, ?_, ?_, ?_⟩ <;> (rw [World.cell?_alloc_mark]; rfl)
  case round =>
    obtain ⟨k, d, rfl, hk, hd, hE, hF, hC, hT, hB⟩ := hrel
    obtain ⟨vd1, vb1, hv1⟩ := hE.out
    have hc0 := hv1.c0
    have hbw : b < wr.heap.size := hv1.hi
    clear hv1
    by_cases hlt : k < t.size
    · by_cases h8 : 8 ≤ d.st
      · have h8' : ¬ d.st < 8 := by omega
        have e1 : cnt c t.data.toList = k := by rw [hC.out, cnt_stay h8]; rfl
        have e2 : fin c t.data.toList = d := by rw [hF.out, fin_stay h8]
        have HR : Hid _ := hE.out.less (T := S) (fun _ x => .inl x)
        rw [← e2] at HR
        have H1 : Hid (k = cnt c t.data.toList) := e1.symm
        clear e1 e2 hF hC hT hd hE
        go_wp2
        go_ret
        exact ⟨ret_nat H1.out, HR.out, hB.out⟩
      · have h8' : d.st < 8 := by omega
        obtain ⟨s1, s2, s3, s4, s5, s6, s7⟩ := hT.out
        have hnext : Hid (fin c t.data.toList = fin (eat1 d t[k]) (t.data.toList.drop (k + 1)) ∧ cnt c t.data.toList = (k + 1) + cnt (eat1 d t[k]) (t.data.toList.drop (k + 1))) := by
          refine ⟨?_, ?_⟩
          · rw [hF.out, drop_at hlt, fin_cons]
          · rw [hC.out, drop_at hlt, cnt_cons (by omega)]; omega
        have hok1 : Hid (okP (eat1 d t[k])) := ok_eat _ hd.out
        have hA : Hid (∀ w', Kp (fun j => S j ∨ j = w.heap.size) wr w' → Sts w' w.heap.size ∧ Kp S w w') := fun w' hk' => ⟨hT.out.kept (hk'.2.2.2.2 _ (.inr rfl)), hB.out.trans (hk'.less fun _ x => .inl x)⟩
        have hd0 := hd.out
        obtain ⟨⟨a1, a2⟩, ⟨b1, b2⟩, d1, e1, f1, g1, g2, g3, g4⟩ := hd0
        have hbd : d.bd.size ≤ 4000 := by omega
        rcases (show d.st = 1 ∨ d.st = 2 ∨ d.st = 3 ∨ d.st = 4 ∨ d.st = 5 ∨ d.st = 6 ∨ d.st = 7 by omega) with hs | hs | hs | hs | hs | hs | hs
        · have hm := ck_size (fun j => S j ∨ j = w.heap.size) b d t[k] wr.drew hE.out.drew hs hbd d1 f1
          rw [hs] at hc0
          clear hF hC hT hd hE hB b1 b2 d1 e1 f1 g1 g2 g3 g4 hbd a1 a2 h8 h8' s2 s3 s4 s5 s6 s7
          go_wp2
          go_region_with (go_at_call 184; refine hm.mono ?_; rintro e w1 ⟨rfl, hE1, hK1⟩)
          all_goals
            go_wp2
            go_roundw
            case rel => exact ⟨k + 1, _, by go_num, by omega, hok1, hE1, hnext.out.1, hnext.out.2, (hA.out _ hK1).1, (hA.out _ hK1).2⟩
            case measure => simp [intOf]; omega
        · have hm := ck_sizeEnd (fun j => S j ∨ j = w.heap.size) b d t[k] wr.drew hE.out.drew hs
          rw [hs] at hc0
          clear hF hC hT hd hE hB b1 b2 d1 e1 f1 g1 g2 g3 g4 hbd a1 a2 h8 h8' s1 s3 s4 s5 s6 s7
          go_wp2
          go_region_with (go_at_call 185; refine hm.mono ?_; rintro e w1 ⟨rfl, hE1, hK1⟩)
          all_goals
            go_wp2
            go_roundw
            case rel => exact ⟨k + 1, _, by go_num, by omega, hok1, hE1, hnext.out.1, hnext.out.2, (hA.out _ hK1).1, (hA.out _ hK1).2⟩
            case measure => simp [intOf]; omega
        · have hm := ck_data (fun j => S j ∨ j = w.heap.size) b d t[k] wr.drew hE.out.drew hs hbd b1 b2
          rw [hs] at hc0
          clear hF hC hT hd hE hB b1 b2 d1 e1 f1 g1 g2 g3 g4 hbd a1 a2 h8 h8' s1 s2 s4 s5 s6 s7
          go_wp2
          go_region_with (go_at_call 186; refine hm.mono ?_; rintro e w1 ⟨rfl, hE1, hK1⟩)
          all_goals
            go_wp2
            go_roundw
            case rel => exact ⟨k + 1, _, by go_num, by omega, hok1, hE1, hnext.out.1, hnext.out.2, (hA.out _ hK1).1, (hA.out _ hK1).2⟩
            case measure => simp [intOf]; omega
        · have hm := ck_dataEnd (fun j => S j ∨ j = w.heap.size) b d t[k] wr.drew hE.out.drew hs
          rw [hs] at hc0
          clear hF hC hT hd hE hB b1 b2 d1 e1 f1 g1 g2 g3 g4 hbd a1 a2 h8 h8' s1 s2 s3 s5 s6 s7
          go_wp2
          go_region_with (go_at_call 187; refine hm.mono ?_; rintro e w1 ⟨rfl, hE1, hK1⟩)
          all_goals
            go_wp2
            go_roundw
            case rel => exact ⟨k + 1, _, by go_num, by omega, hok1, hE1, hnext.out.1, hnext.out.2, (hA.out _ hK1).1, (hA.out _ hK1).2⟩
            case measure => simp [intOf]; omega
        · have hm := ck_dataLine (fun j => S j ∨ j = w.heap.size) b d t[k] wr.drew hE.out.drew hs
          rw [hs] at hc0
          clear hF hC hT hd hE hB b1 b2 d1 e1 f1 g1 g2 g3 g4 hbd a1 a2 h8 h8' s1 s2 s3 s4 s6 s7
          go_wp2
          go_region_with (go_at_call 188; refine hm.mono ?_; rintro e w1 ⟨rfl, hE1, hK1⟩)
          all_goals
            go_wp2
            go_roundw
            case rel => exact ⟨k + 1, _, by go_num, by omega, hok1, hE1, hnext.out.1, hnext.out.2, (hA.out _ hK1).1, (hA.out _ hK1).2⟩
            case measure => simp [intOf]; omega
        · have hm := ck_last (fun j => S j ∨ j = w.heap.size) b d t[k] wr.drew hE.out.drew hs
          rw [hs] at hc0
          clear hF hC hT hd hE hB b1 b2 d1 e1 f1 g1 g2 g3 g4 hbd a1 a2 h8 h8' s1 s2 s3 s4 s5 s7
          go_wp2
          go_region_with (go_at_call 189; refine hm.mono ?_; rintro e w1 ⟨rfl, hE1, hK1⟩)
          all_goals
            go_wp2
            go_roundw
            case rel => exact ⟨k + 1, _, by go_num, by omega, hok1, hE1, hnext.out.1, hnext.out.2, (hA.out _ hK1).1, (hA.out _ hK1).2⟩
            case measure => simp [intOf]; omega
        · have hm := ck_lastLine (fun j => S j ∨ j = w.heap.size) b d t[k] wr.drew hE.out.drew hs
          rw [hs] at hc0
          clear hF hC hT hd hE hB b1 b2 d1 e1 f1 g1 g2 g3 g4 hbd a1 a2 h8 h8' s1 s2 s3 s4 s5 s6
          go_wp2
          go_region_with (go_at_call 190; refine hm.mono ?_; rintro e w1 ⟨rfl, hE1, hK1⟩)
          all_goals
            go_wp2
            go_roundw
            case rel => exact ⟨k + 1, _, by go_num, by omega, hok1, hE1, hnext.out.1, hnext.out.2, (hA.out _ hK1).1, (hA.out _ hK1).2⟩
            case measure => simp [intOf]; omega
    · obtain rfl : k = t.size := by omega
      have e1 : cnt c t.data.toList = t.size := by rw [hC.out, drop_end hlt]; rfl
      have e2 : fin c t.data.toList = d := by rw [hF.out, drop_end hlt]; rfl
      have HR : Hid _ := hE.out.less (T := S) (fun _ x => .inl x)
      rw [← e2] at HR
      have H1 : Hid (t.size = cnt c t.data.toList) := e1.symm
      clear e1 e2 hF hC hT hd hE
      go_wp2
      go_ret
      exact ⟨ret_nat H1.out, HR.out, hB.out⟩
end Go.Proofs.YteibacmohplblaaGreatDoor
namespace Go.Proofs.YteibacmohplblaaGreatDoor
open Go.RowKit

/-- A reading that has just begun. -/
theorem etr_new (w : World) (c : Ck) (cap1 cap2 : Nat) (C1 C2 : Array Value) (S : Nat → Prop) (hS : ∀ k, S k → k < w.heap.size)
    (h1 : OwnsC (w.drew.alloc (.cells C1 5 (C1.size, C1.size + 1))) w.heap.size (.slice (some ⟨w.heap.size, 0, none⟩) c.dg.size cap1) c.dg.data.toList)
    (h2 : OwnsC ((w.drew.alloc (.cells C1 5 (C1.size, C1.size + 1))).drew.alloc (.cells C2 5 (C2.size, C2.size + 1))) (w.heap.size + 1) (.slice (some ⟨w.heap.size + 1, 0, none⟩) c.bd.size cap2) c.bd.data.toList) :
    Etr (((w.drew.alloc (.cells C1 5 (C1.size, C1.size + 1))).drew.alloc (.cells C2 5 (C2.size, C2.size + 1))).alloc (.cells #[.int .i64 c.st, .int .i64 c.lf, .slice (some ⟨w.heap.size, 0, none⟩) c.dg.size cap1, .slice (some ⟨w.heap.size + 1, 0, none⟩) c.bd.size cap2] 170)) S (w.heap.size + 2) c := by
  have z1 : (w.drew.alloc (.cells C1 5 (C1.size, C1.size + 1))).heap.size = w.heap.size + 1 := by simp
  have z2 : ((w.drew.alloc (.cells C1 5 (C1.size, C1.size + 1))).drew.alloc (.cells C2 5 (C2.size, C2.size + 1))).heap.size = w.heap.size + 2 := by simp
  have z3 : (((w.drew.alloc (.cells C1 5 (C1.size, C1.size + 1))).drew.alloc (.cells C2 5 (C2.size, C2.size + 1))).alloc (.cells #[.int .i64 c.st, .int .i64 c.lf, .slice (some ⟨w.heap.size, 0, none⟩) c.dg.size cap1, .slice (some ⟨w.heap.size + 1, 0, none⟩) c.bd.size cap2] 170)).heap.size = w.heap.size + 3 := by simp
  have k3 : ∀ k, (((w.drew.alloc (.cells C1 5 (C1.size, C1.size + 1))).drew.alloc (.cells C2 5 (C2.size, C2.size + 1))).alloc (.cells #[.int .i64 c.st, .int .i64 c.lf, .slice (some ⟨w.heap.size, 0, none⟩) c.dg.size cap1, .slice (some ⟨w.heap.size + 1, 0, none⟩) c.bd.size cap2] 170)).cell? ⟨w.heap.size + 2, k, none⟩ = (#[.int .i64 c.st, .int .i64 c.lf, .slice (some ⟨w.heap.size, 0, none⟩) c.dg.size cap1, .slice (some ⟨w.heap.size + 1, 0, none⟩) c.bd.size cap2] : Array Value)[k]? := fun k => by
    have := World.cell?_alloc_mark ((w.drew.alloc (.cells C1 5 (C1.size, C1.size + 1))).drew.alloc (.cells C2 5 (C2.size, C2.size + 1))) #[.int .i64 c.st, .int .i64 c.lf, .slice (some ⟨w.heap.size, 0, none⟩) c.dg.size cap1, .slice (some ⟨w.heap.size + 1, 0, none⟩) c.bd.size cap2] 170 (0, 0) k
    rw [z2] at this
    exact this
  refine ⟨_, _, {
    c0 := k3 0
    c1 := k3 1
    c2 := k3 2
    c3 := k3 3
    od := ?_
    ob := ?_
    nd := by simp [Value.ownBlock]
    nb := by simp [Value.ownBlock]
    ne := by right; simp [Value.ownBlock]
    fz := fun k => ?_
    lo := fun x => by have := hS _ x; omega
    sd := fun k hk x => by simp [Value.ownBlock] at hk; subst hk; have := hS _ x; omega
    sb := fun k hk x => by simp [Value.ownBlock] at hk; subst hk; have := hS _ x; omega
    sz := fun k x => by rw [z3]; have := hS k x; omega
    hi := by rw [z3]; omega }⟩
  · have e1 : OwnsC (w.drew.alloc (.cells C1 5 (C1.size, C1.size + 1))) 0 (.slice (some ⟨w.heap.size, 0, none⟩) c.dg.size cap1) c.dg.data.toList := by
      rcases h1 with x | ⟨g, cap, cur, fz, x1, x2, x3⟩
      · exact .inl x
      · exact .inr ⟨g, cap, cur, fz, x1, Nat.zero_le _, x3⟩
    refine e1.kept fun k hk => ?_
    simp [Value.ownBlock] at hk
    subst hk
    rw [Below.heap_alloc _ _ _ (by rw [z2]; omega)]
    exact Below.heap_alloc (w.drew.alloc (.cells C1 5 (C1.size, C1.size + 1))).drew _ _ (show w.heap.size < (w.drew.alloc (.cells C1 5 (C1.size, C1.size + 1))).heap.size by rw [z1]; omega)
  · have e1 : OwnsC ((w.drew.alloc (.cells C1 5 (C1.size, C1.size + 1))).drew.alloc (.cells C2 5 (C2.size, C2.size + 1))) 0 (.slice (some ⟨w.heap.size + 1, 0, none⟩) c.bd.size cap2) c.bd.data.toList := by
      rcases h2 with x | ⟨g, cap, cur, fz, x1, x2, x3⟩
      · exact .inl x
      · exact .inr ⟨g, cap, cur, fz, x1, Nat.zero_le _, x3⟩
    refine e1.kept fun k hk => ?_
    simp [Value.ownBlock] at hk
    subst hk
    rw [Below.heap_alloc _ _ _ (by rw [z2]; omega)]
  · have := World.frozen?_alloc_mark ((w.drew.alloc (.cells C1 5 (C1.size, C1.size + 1))).drew.alloc (.cells C2 5 (C2.size, C2.size + 1))) #[.int .i64 c.st, .int .i64 c.lf, .slice (some ⟨w.heap.size, 0, none⟩) c.dg.size cap1, .slice (some ⟨w.heap.size + 1, 0, none⟩) c.bd.size cap2] 170 0 0 k
    rw [z2] at this
    rw [this]
    simp

set_option maxHeartbeats 2000000 in
theorem implAll (c : Ck) (t : ByteArray) (w : World) (hz : c.dg.size ≤ 100000000) (hb : c.bd.size ≤ 100000000) (ht : t.size ≤ 100000000) :
    Calls Tryz.prog 146 #[ckV c, .string t] w fun e w' => e = .returned (.tuple #[ckV (allC c t.data.toList), .int .i64 (allN c t.data.toList : Int)]) ∧ Below w.heap.size w w' := by
  have hq := implOkC c ((w.alloc (.cells #[.int .i64 c.st, .int .i64 c.lf, .string c.dg, .string c.bd] 138)).alloc (.cells #[.int .i64 0, .int .i64 0, .string ⟨#[]⟩, .string ⟨#[]⟩] 138)) hz hb
  have hb0 : Hid (Below w.heap.size w ((w.alloc (.cells #[.int .i64 c.st, .int .i64 c.lf, .string c.dg, .string c.bd] 138)).alloc (.cells #[.int .i64 0, .int .i64 0, .string ⟨#[]⟩, .string ⟨#[]⟩] 138))) := ((Below.refl _ w).alloc (Nat.le_refl _) _).alloc (by simp) _
  have hz0 : ((w.alloc (.cells #[.int .i64 c.st, .int .i64 c.lf, .string c.dg, .string c.bd] 138)).alloc (.cells #[.int .i64 0, .int .i64 0, .string ⟨#[]⟩, .string ⟨#[]⟩] 138)).heap.size = w.heap.size + 2 := by simp
  have hA : Hid (Four ((w.alloc (.cells #[.int .i64 c.st, .int .i64 c.lf, .string c.dg, .string c.bd] 138)).alloc (.cells #[.int .i64 0, .int .i64 0, .string ⟨#[]⟩, .string ⟨#[]⟩] 138)) w.heap.size c) := (Four.new w c).alloc _
  have hR : Hid (Four ((w.alloc (.cells #[.int .i64 c.st, .int .i64 c.lf, .string c.dg, .string c.bd] 138)).alloc (.cells #[.int .i64 0, .int .i64 0, .string ⟨#[]⟩, .string ⟨#[]⟩] 138)) (w.heap.size + 1) zeroC) := by
    have := Four.new (w.alloc (.cells #[.int .i64 c.st, .int .i64 c.lf, .string c.dg, .string c.bd] 138)) zeroC
    rw [show (w.alloc (.cells #[.int .i64 c.st, .int .i64 c.lf, .string c.dg, .string c.bd] 138)).heap.size = w.heap.size + 1 by simp] at this
    exact this
  by_cases hok : okC c = true
  · rw [allC_yes hok, allN_yes hok]
    rw [hok] at hq
    unfold ckV at hq ⊢
    generalize hfd : fin c t.data.toList = d
    generalize hcn : cnt c t.data.toList = n
    have HFD : Hid _ := hfd
    have HCN : Hid _ := hcn
    clear hfd hcn
    go_enter Tryz.func146, Tryz.ntmps146
    go_wp2_with fail
    refine hq.mono ?_
    rintro e w1 ⟨rfl, hb1⟩
    have hA1 := hA.out.kept hb1 hA.out.hi
    have hR1 := hR.out.kept hb1 hR.out.hi
    have hB1 : Hid (Below w.heap.size w w1) := hb0.out.trans (hb1.mono hb0.out.size)
    have hz1 : w.heap.size + 2 ≤ w1.heap.size := by have := hb1.size; omega
    clear hq hA hR hb0 hz0 hb1
    obtain ⟨cap1, C1, hcv1, ho1⟩ := row_of w1 c.dg (by have := (okC_is hok).2.2.1; omega)
    obtain ⟨cap2, C2, hcv2, ho2⟩ := row_of (w1.drew.alloc (.cells C1 5 (C1.size, C1.size + 1))) c.bd (by have := (okC_is hok).2.2.2.1; have := (okC_is hok).2.1.1; omega)
    have zz : (w1.drew.alloc (.cells C1 5 (C1.size, C1.size + 1))).heap.size = w1.heap.size + 1 := by simp
    rw [zz] at hcv2 ho2
    have hcv3 : (convert 9 22 (.string c.bd)).run Tryz.prog (w1.alloc (.cells C1 5 (C1.size, C1.size + 1))).drew = .ok (.slice (some ⟨w1.heap.size + 1, 0, none⟩) c.bd.size cap2) ((w1.drew.alloc (.cells C1 5 (C1.size, C1.size + 1))).drew.alloc (.cells C2 5 (C2.size, C2.size + 1))) := hcv2
    clear hcv2
    have hN : Hid _ := etr_new w1 c cap1 cap2 C1 C2 (fun k => k < w1.heap.size) (fun _ x => x) ho1 ho2
    have hB2 : Hid (Below w1.heap.size w1 (((w1.drew.alloc (.cells C1 5 (C1.size, C1.size + 1))).drew.alloc (.cells C2 5 (C2.size, C2.size + 1))).alloc (.cells #[.int .i64 c.st, .int .i64 c.lf, .slice (some ⟨w1.heap.size, 0, none⟩) c.dg.size cap1, .slice (some ⟨w1.heap.size + 1, 0, none⟩) c.bd.size cap2] 170))) := by
      have a1 : Below w1.heap.size w1 (w1.drew.alloc (.cells C1 5 (C1.size, C1.size + 1))) := (show Below w1.heap.size w1 w1.drew from ⟨rfl, rfl, rfl, Nat.le_refl _, fun _ _ => rfl⟩).alloc (Nat.le_refl _) _
      have a2 : Below w1.heap.size w1 (w1.drew.alloc (.cells C1 5 (C1.size, C1.size + 1))).drew := ⟨a1.os, a1.tape, a1.output, a1.size, a1.block⟩
      exact (a2.alloc a2.size _).alloc (a2.alloc a2.size _).size _
    have a0 := hA1.c0
    have a1 := hA1.c1
    have a2 := hA1.c2
    have a3 := hA1.c3
    clear ho1 ho2 zz
    have hlt1 : w.heap.size < w1.heap.size := by omega
    have hE : Calls Tryz.prog 166 #[.pointer (some ⟨w1.heap.size + 1 + 1, 0, none⟩), .string t] (((w1.alloc (.cells C1 5 (C1.size, C1.size + 1))).alloc (.cells C2 5 (C2.size, C2.size + 1))).alloc (.cells #[.int .i64 c.st, .int .i64 c.lf, .slice (some ⟨w1.heap.size, 0, none⟩) c.dg.size cap1, .slice (some ⟨w1.heap.size + 1, 0, none⟩) c.bd.size cap2] 170)).drew.drew
        fun e w' => e = .returned (.int .i64 (cnt c t.data.toList : Int)) ∧ Etr w' (fun k => k < w1.heap.size) (w1.heap.size + 1 + 1) (fin c t.data.toList) ∧ Kp (fun k => k < w1.heap.size) (((w1.alloc (.cells C1 5 (C1.size, C1.size + 1))).alloc (.cells C2 5 (C2.size, C2.size + 1))).alloc (.cells #[.int .i64 c.st, .int .i64 c.lf, .slice (some ⟨w1.heap.size, 0, none⟩) c.dg.size cap1, .slice (some ⟨w1.heap.size + 1, 0, none⟩) c.bd.size cap2] 170)).drew.drew w' := ck_eat (fun k => k < w1.heap.size) (w1.heap.size + 2) c t _ hN.out (okC_is hok) ht
    have hB3 : Hid (Below w1.heap.size w1 (((w1.alloc (.cells C1 5 (C1.size, C1.size + 1))).alloc (.cells C2 5 (C2.size, C2.size + 1))).alloc (.cells #[.int .i64 c.st, .int .i64 c.lf, .slice (some ⟨w1.heap.size, 0, none⟩) c.dg.size cap1, .slice (some ⟨w1.heap.size + 1, 0, none⟩) c.bd.size cap2] 170)).drew.drew) := hB2.out
    rw [show fin c t.data.toList = d from HFD.out, show cnt c t.data.toList = n from HCN.out] at hE
    clear hN hB2 HFD HCN
    go_wp2_with fail
    refine hE.mono ?_
    rintro e w2 ⟨rfl, hE2, hK2⟩
    have hb2 : Below w1.heap.size w1 w2 := hB3.out.trans (hK2.below)
    have hR2 := hR1.kept hb2 (by omega)
    have hB4 : Hid (Below w.heap.size w w2) := hB1.out.trans (hb2.mono (by omega))
    obtain ⟨vd, vb, hv⟩ := hE2
    have e0 := hv.c0
    have e1 := hv.c1
    have e2 := hv.c2
    have e3 := hv.c3
    have cv1 := hv.dtext
    have cv2 := hv.btext
    have r0 := hR2.c0
    have r1 := hR2.c1
    have r2 := hR2.c2
    have r3 := hR2.c3
    have rf := hR2.fz
    clear hE hB3 hB1 hb2 hK2 hv hR2 hR1 hA1 a0 a1 a2 a3 hcv1 hcv3
    go_wp2
    refine bodyPost_ret (v := .tuple #[.agg #[.int .i64 d.st, .int .i64 d.lf, .string d.dg, .string d.bd], .int .i64 n]) (by simp [results, Tryz.results146, go_sem, r0, r1, r2, r3]) rfl ?_
    exact ⟨rfl, (((hB4.out.setCell (by simp) _).setCell (by simp) _).setCell (by simp) _).setCell (by simp) _⟩
  · have hok' : okC c = false := by simpa using hok
    rw [allC_no hok', allN_no hok']
    rw [hok'] at hq
    unfold ckV at hq ⊢
    go_enter Tryz.func146, Tryz.ntmps146
    go_wp2_with fail
    refine hq.mono ?_
    rintro e w1 ⟨rfl, hb1⟩
    have hR1 := hR.out.kept hb1 hR.out.hi
    have r0 := hR1.c0
    have r1 := hR1.c1
    have r2 := hR1.c2
    have r3 := hR1.c3
    have rf := hR1.fz
    have hB1 : Hid (Below w.heap.size w w1) := hb0.out.trans (hb1.mono hb0.out.size)
    clear hq hA hR hb0 hz0 hb1 hR1
    go_wp2
    refine bodyPost_ret (v := .tuple #[.agg #[.int .i64 0, .int .i64 0, .string ⟨#[]⟩, .string ⟨#[]⟩], .int .i64 0]) (by simp [results, Tryz.results146, go_sem, r0, r1, r2, r3]) rfl ?_
    exact ⟨rfl, (((hB1.out.setCell (by simp) _).setCell (by simp) _).setCell (by simp) _).setCell (by simp) _⟩

set_option maxHeartbeats 1000000 in
theorem implUn (t : ByteArray) (w : World) (ht : t.size ≤ 100000000) :
    Calls Tryz.prog 126 #[.string t] w fun e w' => e = .returned (unV t.data.toList) ∧ Below w.heap.size w w' := by
  have hk : okC (ck0 ⟨#[]⟩) = true := okC_yes (ok_ck0 (by show 0 ≤ 4000; omega))
  have hq := implAll (ck0 ⟨#[]⟩) t w (by show 0 ≤ 100000000; omega) (by show 0 ≤ 100000000; omega) ht
  rw [allC_yes hk, allN_yes hk] at hq
  have hq' : Calls Tryz.prog 146 #[.agg #[.int .i64 1, .int .i64 0, .string ⟨#[]⟩, .string ⟨#[]⟩], .string t] w fun e w' => e = .returned (.tuple #[ckV (unF t.data.toList), .int .i64 (unN t.data.toList : Int)]) ∧ Below w.heap.size w w' := hq
  unfold ckV at hq'
  clear hq hk
  by_cases h8 : (unF t.data.toList).st = 8
  · rw [unV_yes h8]
    rw [h8] at hq'
    generalize unF t.data.toList = d at hq' ⊢
    generalize unN t.data.toList = n at hq' ⊢
    clear h8
    go_enter Tryz.func126, Tryz.ntmps126
    go_wp2_with (go_at_call 146; refine hq'.mono ?_; rintro e w2 ⟨rfl, hb2⟩)
    go_ret3
    exact ⟨rfl, hb2.alloc hb2.size _⟩
  · rw [unV_no h8]
    generalize unF t.data.toList = d at hq' h8 ⊢
    generalize unN t.data.toList = n at hq' ⊢
    go_enter Tryz.func126, Tryz.ntmps126
    go_wp2_with (go_at_call 146; refine hq'.mono ?_; rintro e w2 ⟨rfl, hb2⟩)
    go_ret3
    exact ⟨rfl, hb2.alloc hb2.size _⟩
end Go.Proofs.YteibacmohplblaaGreatDoor
namespace Go.Proofs.YteibacmohplblaaGreatDoor
open Go.RowKit Go.Sort
set_option linter.unusedVariables false

theorem sta_parts {g : List UInt8} : staOk g = true ↔ g.length = 3 ∧ numOk 10 15 (txtL g) = true ∧ decide (200 ≤ numV 10 15 (txtL g) ∧ numV 10 15 (txtL g) ≤ 599) = true := by
  unfold staOk
  rw [Bool.and_eq_true, Bool.and_eq_true]
  constructor
  · rintro ⟨h1, h2, h3⟩; exact ⟨of_decide_eq_true h1, h2, h3⟩
  · rintro ⟨h1, h2, h3⟩; exact ⟨decide_eq_true h1, h2, h3⟩
set_option maxHeartbeats 1000000 in
theorem implRsLine_no (b : Nat) (t : ByteArray) (m : Int) (w : World) (h : Rdr w b t 0) (ht : t.size ≤ 1048576) (hm : w.cell? ⟨1, 0, none⟩ = some (.int .i64 m)) (hbad : ∀ x r v g o, lnC t.data.toList = some (x, r) → wrdL x = [v, g, o] → ¬ goodS v g o) :
    Calls Tryz.prog 81 #[.pointer (some ⟨b, 0, none⟩)] w fun e w' => e = .panicked (panL 1) ∧ w.grownBy w' (some b) := by
  by_cases hyes : ∃ x r a1 a2 a3, lnC t.data.toList = some (x, r) ∧ wrdL x = [a1, a2, a3]
  · obtain ⟨x, r, a1, a2, a3, hc, hw⟩ := hyes
    have hq := implWords_yes b t m x r a1 a2 a3 w h ht hm hc hw
    have hn := hbad x r a1 a2 a3 hc hw
    obtain ⟨_, z1, z2, z3⟩ := word_few hc hw (by simpa using ht)
    unfold goodS at hn
    rw [sta_parts] at hn
    have e2 : (txtL a2).size = a2.length := by show a2.toArray.size = a2.length; simp
    rw [← e2] at hn
    clear e2
    generalize txtL a1 = A1 at hq hn z1
    generalize txtL a2 = A2 at hq hn z2
    generalize txtL a3 = A3 at hq hn z3
    have hd := fun W => implDig A2 W (le_max z2)
    unfold numE at hd
    generalize numV 10 15 A2 = st at hd hn
    generalize numOk 10 15 A2 = ok at hd hn
    clear hbad hc hw h
    unfold panL
    go_enter Tryz.func81, Tryz.ntmps81
    go_wp2_with fail
    refine hq.mono ?_
    rintro e w1 ⟨rfl, hr1, hg1⟩
    clear hr1
    go_wp2_with fail
    refine (hd _).mono ?_
    rintro e w2 ⟨rfl, hb2⟩
    have hg2 := grown_below hg1 hb2
    clear hg1 hb2 hd
    by_cases h1 : A1 = hvS
    · have d1 := (same_hv h1).1
      cases ok with
      | false =>
        clear hn h1
        go_wp2
        exact ⟨rfl, rfl, hg2⟩
      | true =>
        by_cases h3 : A2.size = 3
        · have d3 : ((A2.size : Int) == 3) = true := by rw [h3]; rfl
          have d3' : ((A2.size : Int) != 3) = false := by rw [h3]; rfl
          have hn' : decide (200 ≤ st ∧ st ≤ 599) = true → ¬ tokB A3 = true := fun a b => hn ⟨h1, ⟨h3, rfl, a⟩, b⟩
          have H3 : Hid (A2.size = 3) := h3
          clear hn h1 h3
          go_wp2_with fail
          refine (implSta st _).mono ?_
          rintro e w3 ⟨rfl, rfl⟩
          cases h4 : decide (200 ≤ st ∧ st ≤ 599) with
          | false =>
            clear hn'
            go_wp2
            exact ⟨rfl, rfl, hg2⟩
          | true =>
            have h5 : tokB A3 = false := by simpa using hn' h4
            clear hn'
            go_wp2_with (go_at_call 90; refine (implTok A3 _ (le_max z3)).mono ?_; rw [h5]; rintro e w4 ⟨rfl, hb4⟩)
            exact ⟨rfl, rfl, grown_below hg2 hb4⟩
        · have d3 : ((A2.size : Int) == 3) = false := by simp; omega
          have d3' : ((A2.size : Int) != 3) = true := by simp; omega
          clear hn h1
          go_wp2
          exact ⟨rfl, rfl, hg2⟩
    · have d1 := (diff_hv h1).1
      clear hn h1
      go_wp2
      exact ⟨rfl, rfl, hg2⟩
  · have hq := implWords_no b t m w h ht hm (fun x r hc h3 => by obtain ⟨a1, a2, a3, hw⟩ := three_of h3; exact hyes ⟨x, r, a1, a2, a3, hc, hw⟩)
    clear hbad hyes h
    unfold panL at hq ⊢
    go_enter Tryz.func81, Tryz.ntmps81
    go_wp2_with fail
    refine hq.mono ?_
    rintro e w1 ⟨rfl, hg1⟩
    exact ⟨rfl, rfl, hg1⟩
set_option maxHeartbeats 1000000 in
theorem implRsLine_yes (b : Nat) (t : ByteArray) (m : Int) (x r a1 a2 a3 : List UInt8) (w : World) (h : Rdr w b t 0) (ht : t.size ≤ 1048576) (hm : w.cell? ⟨1, 0, none⟩ = some (.int .i64 m)) (hc : lnC t.data.toList = some (x, r)) (hw : wrdL x = [a1, a2, a3]) (hg : goodS a1 a2 a3) :
    Calls Tryz.prog 81 #[.pointer (some ⟨b, 0, none⟩)] w fun e w' => e = .returned (.int .i64 (numV 10 15 (txtL a2))) ∧ Rdr w' b t (x.length + 2) ∧ w.grownBy w' (some b) := by
  have hq := implWords_yes b t m x r a1 a2 a3 w h ht hm hc hw
  obtain ⟨_, z1, z2, z3⟩ := word_few hc hw (by simpa using ht)
  obtain ⟨g1, g2, g3⟩ := hg
  rw [sta_parts] at g2
  have e2 : (txtL a2).size = a2.length := by show a2.toArray.size = a2.length; simp
  rw [← e2] at g2
  obtain ⟨k1, k2, k3⟩ := g2
  clear e2
  generalize txtL a1 = A1 at hq z1 g1
  generalize txtL a2 = A2 at hq z2 k1 k2 k3 ⊢
  generalize txtL a3 = A3 at hq z3 g3
  have hd := fun W => implDig A2 W (le_max z2)
  unfold numE at hd
  rw [k2] at hd
  generalize numV 10 15 A2 = st at hd k3 ⊢
  have d1 := (same_hv g1).1
  have d3 : ((A2.size : Int) == 3) = true := by rw [k1]; rfl
  have d3' : ((A2.size : Int) != 3) = false := by rw [k1]; rfl
  have H3 : Hid (A2.size = 3) := k1
  clear hc hw h g1 k1 k2
  go_enter Tryz.func81, Tryz.ntmps81
  go_wp2_with fail
  refine hq.mono ?_
  rintro e w1 ⟨rfl, hr1, hg1⟩
  have R1 : Hid (Rdr w1 b t (x.length + 2)) := hr1
  clear hr1
  go_wp2_with fail
  refine (hd _).mono ?_
  rintro e w2 ⟨rfl, hb2⟩
  have R2 : Hid (Rdr w2 b t (x.length + 2)) := R1.out.kept hb2
  have hg2 := grown_below hg1 hb2
  clear hg1 hb2 R1 hd
  go_wp2_with fail
  refine (implSta st _).mono ?_
  rintro e w3 ⟨rfl, rfl⟩
  rw [k3]
  go_wp2_with (go_at_call 90; refine (implTok A3 _ (le_max z3)).mono ?_; rw [g3]; rintro e w4 ⟨rfl, hb4⟩)
  go_ret
  exact ⟨rfl, R2.out.kept hb4, grown_below hg2 hb4⟩
end Go.Proofs.YteibacmohplblaaGreatDoor

/-
  The specification's purges by their contracts: right ones, what is shown.
  The specification's purges by their contracts: what is shown, what is read.
  The specification's purges by their contracts: what is read.
  The specification's logs by their contract.
  What is a right message, and so many servers: the specification's, by contract.
  The program's purges by their contracts: right ones, what is shown.
-/
import Derived.Test.YtdkhdjickkcaiaaGreatRVS
import Derived.Test.YtdkhdjickkcaiaaGreatRV09
import Derived.Test.YtdkhdjickkcaiaaGreatRV13
import Derived.WalkKit
import Derived.WalkSpells
import Derived.Deep.RegionWith
import Derived.Deep.DeepCutAuto
import Derived.Test.YtdkhdjickkcaiaaGreatRV12
set_option linter.unusedVariables false
set_option linter.unusedSimpArgs false
set_option maxRecDepth 100000
set_option maxHeartbeats 64000000
namespace Go.Proofs.YtdkhdjickkcaiaaGreat
open Go.RowKit Pg

def pgV (k : Int) (s : ByteArray) : Value := .agg #[.int .i64 k, .string s]
theorem pgIn1 (n lo hi : Int) (w : World) : Calls Tryz.prog 60 #[.int .i64 n, .int .i64 lo, .int .i64 hi] w fun e w' => e = .returned (.bool (decide (lo ≤ n ∧ n ≤ hi))) ∧ w = w' := by
 by_cases h1 : lo ≤ n
 ·
  by_cases h2 : n ≤ hi
  ·
   rw [decide_eq_true (show lo ≤ n ∧ n ≤ hi from ⟨h1, h2⟩)]
   go_enter Tryz.func60, Tryz.ntmps60
   go_wp2
   go_ret
   exact ⟨rfl, rfl⟩
  ·
   rw [decide_eq_false (fun h : lo ≤ n ∧ n ≤ hi => h2 h.2)]
   go_enter Tryz.func60, Tryz.ntmps60
   go_wp2
   go_ret
   exact ⟨rfl, rfl⟩
 ·
  rw [decide_eq_false (fun h : lo ≤ n ∧ n ≤ hi => h1 h.1)]
  go_enter Tryz.func60, Tryz.ntmps60
  go_wp2
  go_ret
  exact ⟨rfl, rfl⟩
theorem all_at {p : Int → Bool} {l : List UInt8} {k : Nat} (h : k < l.length) (ha : (l.take k).all (fun c => p (c.toNat : Int)) = true) (hp : p (l[k].toNat : Int) = true) : (l.take (k + 1)).all (fun c => p (c.toNat : Int)) = true := by
 rw [List.take_succ_eq_append_getElem h, List.all_append, ha]
 simp [hp]
theorem all_bad {p : Int → Bool} {l : List UInt8} {k : Nat} (h : k < l.length) (hp : p (l[k].toNat : Int) = false) : l.all (fun c => p (c.toNat : Int)) = false := by
 rw [List.all_eq_false]
 exact ⟨l[k], List.getElem_mem h, by simp [hp]⟩
theorem specPgo (k : Int) (s : ByteArray) (w : World) (hs : s.size ≤ maxLen) :
  Calls Tryz.prog 153 #[pgV k s] w fun e w' => e = .returned (.bool (pgOk k s)) ∧ Below w.heap.size w w' := by
 have hin := fun W => pgIn1 k 1 3 W
 have B0 : Hid (Below w.heap.size w (w.alloc (.cells #[.int .i64 k, .string s] 87))) := (Below.refl _ w).alloc (Nat.le_refl _) _
 have X0 := Bx.new w 87 #[.int .i64 k, .string s]
 unfold pgV
 unfold maxLen at hs
 have hlen : s.data.toList.length = s.size := by simp
 go_enter Tryz.func153, Tryz.ntmps153
 generalize hwA : w.alloc (.cells #[.int .i64 k, .string s] 87) = wA at B0 X0
 have x0 := X0.cell 0
 have x1 := X0.cell 1
 clear X0
 by_cases h4 : k = 4
 ·
  subst h4
  have HR : Hid (pgOk 4 s = s.toList.isEmpty) := by
   show decide (s.size = 0) = _
   rw [ByteArray.toList_eq, ← hlen]
   cases s.data.toList <;> simp
  clear hin
  go_wp2
  go_ret
  exact ⟨congrArg (fun b => Ending.returned (.bool b)) HR.out.symm, B0.out⟩
 ·
  have HR : Hid (pgOk k s = (decide (1 ≤ k ∧ k ≤ 3) && txOk s)) := by show _ = _; unfold pgOk; rw [if_neg h4]
  by_cases h13 : 1 ≤ k ∧ k ≤ 3
  ·
   rw [decide_eq_true h13] at hin
   by_cases hz : s.size < 1
   ·
    have HE : Hid (false = pgOk k s) := by show _ = _; rw [HR.out]; unfold txOk; rw [decide_eq_false (fun h : 1 ≤ s.size ∧ s.size ≤ 200 => by omega)]; simp
    have hzi : (s.size : Int) < 1 := by omega
    go_wp2_with fail
    refine (hin _).mono ?_
    rintro e w1 ⟨rfl, rfl⟩
    go_wp2
    go_ret
    exact ⟨congrArg (fun b => Ending.returned (.bool b)) HE.out, B0.out⟩
   ·
    by_cases hb : 200 < s.size
    ·
     have HE : Hid (false = pgOk k s) := by show _ = _; rw [HR.out]; unfold txOk; rw [decide_eq_false (fun h : 1 ≤ s.size ∧ s.size ≤ 200 => by omega)]; simp
     have hzi : ¬ (s.size : Int) < 1 := by omega
     have hbi : 200 < (s.size : Int) := by omega
     go_wp2_with fail
     refine (hin _).mono ?_
     rintro e w1 ⟨rfl, rfl⟩
     go_wp2
     go_ret
     exact ⟨congrArg (fun b => Ending.returned (.bool b)) HE.out, B0.out⟩
    ·
     have HT : Hid (pgOk k s = s.data.toList.all fun c => keyN (c.toNat : Int)) := by
      show _ = _
      rw [HR.out]
      unfold txOk allB
      rw [decide_eq_true h13, decide_eq_true (show 1 ≤ s.size ∧ s.size ≤ 200 from ⟨by omega, by omega⟩)]
      rfl
     have hzi : ¬ (s.size : Int) < 1 := by omega
     have hbi : ¬ 200 < (s.size : Int) := by omega
     go_wp2_with fail
     refine (hin _).mono ?_
     rintro e w1 ⟨rfl, rfl⟩
     go_wp2_with fail
     clear hin
     go_loop [3] (fun i => ∃ j : Nat, j ≤ s.size ∧ i = .int .i64 j ∧ Hid ((s.data.toList.take j).all (fun c => keyN (c.toNat : Int)) = true)) (fun i => s.size - (intOf i).toNat)
     case atStart => exact ⟨0, Nat.zero_le _, rfl, (show Hid _ from rfl)⟩
     case round =>
      obtain ⟨j, hj, rfl, hall⟩ := hrel
      by_cases hlt : j < s.size
      ·
       have hji : (j : Int) < (s.size : Int) := by omega
       have hj2 : j < s.data.toList.length := by omega
       have e1 : s.data.toList[j]'hj2 = s[j] := by simp; rfl
       have HA := fun (h : keyN ((s.data.toList[j]'hj2).toNat : Int) = true) => all_at hj2 hall.out h
       have HN := fun (h : keyN ((s.data.toList[j]'hj2).toNat : Int) = false) => all_bad hj2 h
       rw [e1] at HA HN
       have hb8 : s[j].toNat < 256 := s[j].toNat_lt
       by_cases hk1 : s[j].toNat < 33
       ·
        have HE : Hid (false = pgOk k s) := by show _ = _; rw [HT.out, HN (keyN_no (by omega))]
        have hk1i : (s[j].toNat : Int) < 33 := by omega
        clear HA HN
        go_wp2
        go_ret
        exact ⟨congrArg (fun b => Ending.returned (.bool b)) HE.out, B0.out⟩
       ·
        by_cases hk2 : 126 < s[j].toNat
        ·
         have HE : Hid (false = pgOk k s) := by show _ = _; rw [HT.out, HN (keyN_no (by omega))]
         have hk1i : ¬ (s[j].toNat : Int) < 33 := by omega
         have hk2i : 126 < (s[j].toNat : Int) := by omega
         clear HA HN
         go_wp2
         go_ret
         exact ⟨congrArg (fun b => Ending.returned (.bool b)) HE.out, B0.out⟩
        ·
         have HA2 : Hid _ := HA (keyN_yes (by omega))
         have hk1i : ¬ (s[j].toNat : Int) < 33 := by omega
         have hk2i : ¬ 126 < (s[j].toNat : Int) := by omega
         clear HA HN
         go_wp2
         go_round
         case rel => exact ⟨j + 1, by omega, by go_num, HA2⟩
         case measure => simp [intOf]; omega
      ·
       obtain rfl : j = s.size := by omega
       have HE : Hid (true = pgOk k s) := by
        have := hall.out
        rw [← hlen, List.take_length] at this
        show _ = _
        rw [HT.out, this]
       go_wp2
       go_ret
       exact ⟨congrArg (fun b => Ending.returned (.bool b)) HE.out, B0.out⟩
  ·
   have HE : Hid (false = pgOk k s) := by show _ = _; rw [HR.out, decide_eq_false h13]; rfl
   rw [decide_eq_false h13] at hin
   go_wp2_with fail
   refine (hin _).mono ?_
   rintro e w1 ⟨rfl, rfl⟩
   go_wp2
   go_ret
   exact ⟨congrArg (fun b => Ending.returned (.bool b)) HE.out, B0.out⟩
open Go.RowKit Pg

theorem specSho (k : Int) (s : ByteArray) (w : World) (hs : s.size ≤ 2000000) (hk : 1 ≤ k ∧ k ≤ 4) :
  Calls Tryz.prog 65 #[pgV k s] w fun e w' => e = .returned (.string (shoP k s)) ∧ Below w.heap.size w w' := by
 have B0 : Hid (Below w.heap.size w (w.alloc (.cells #[.int .i64 k, .string s] 87))) := (Below.refl _ w).alloc (Nat.le_refl _) _
 have X0 : Hid (Bx (w.alloc (.cells #[.int .i64 k, .string s] 87)) w.heap.size 87 #[.int .i64 k, .string s]) := hH_ (Bx.new w 87 #[.int .i64 k, .string s])
 unfold pgV
 go_enter Tryz.func65, Tryz.ntmps65
 generalize hwA : w.alloc (.cells #[.int .i64 k, .string s] 87) = wA at B0 X0
 have x0 := X0.out.cell 0
 have x1 := X0.out.cell 1
 have xl := X0.out.lt
 have hsz : w.heap.size ≤ wA.heap.size := by omega
 have HD : Hid (∀ o, Below w.heap.size w (wA.drew.alloc o) ∧ Below w.heap.size w ((wA.alloc o).drew)) := hH_ (fun o => ⟨B0.out.drew.alloc hsz _, (B0.out.alloc hsz _).drew⟩)
 rcases (show k = 1 ∨ k = 2 ∨ k = 3 ∨ k = 4 by omega) with rfl | rfl | rfl | rfl
 ·
  go_wp2_with fail
  go_region
  all_goals
   go_wp2
   go_ret
   exact ⟨rfl, by first | exact (HD.out _).1 | exact (HD.out _).2⟩
 ·
  go_wp2_with fail
  go_region
  all_goals
   go_wp2
   go_ret
   exact ⟨rfl, by first | exact (HD.out _).1 | exact (HD.out _).2⟩
 ·
  go_wp2_with fail
  go_region
  all_goals
   go_wp2
   go_ret
   exact ⟨rfl, by first | exact (HD.out _).1 | exact (HD.out _).2⟩
 ·
  go_wp2
  go_ret
  exact ⟨rfl, B0.out⟩
theorem pg_kind {k : Int} {s : ByteArray} (h : pgOk k s = true) : 1 ≤ k ∧ k ≤ 4 := by
 unfold pgOk at h
 split at h
 ·
  omega
 ·
  rw [Bool.and_eq_true, decide_eq_true_eq] at h
  omega
theorem specShp (k : Int) (s : ByteArray) (w : World) (hs : s.size ≤ 2000000) :
  Calls Tryz.prog 124 #[pgV k s] w fun e w' => e = .returned (.string (shwP k s)) ∧ Below w.heap.size w w' := by
 have hO := fun W => specPgo k s W (by unfold maxLen; omega)
 have hS := fun W h => specSho k s W hs h
 have B0 : Hid (Below w.heap.size w (w.alloc (.cells #[.int .i64 k, .string s] 87))) := (Below.refl _ w).alloc (Nat.le_refl _) _
 have X0 : Hid (Bx (w.alloc (.cells #[.int .i64 k, .string s] 87)) w.heap.size 87 #[.int .i64 k, .string s]) := hH_ (Bx.new w 87 #[.int .i64 k, .string s])
 unfold pgV at *
 go_enter Tryz.func124, Tryz.ntmps124
 generalize hwA : w.alloc (.cells #[.int .i64 k, .string s] 87) = wA at B0 X0
 have x0 := X0.out.cell 0
 have x1 := X0.out.cell 1
 go_wp2_with fail
 refine (hO _).mono ?_
 rintro e w1 ⟨rfl, hb1⟩
 have B1 := hH_ (B0.out.trans (hb1.mono B0.out.size))
 have X1 := hH_ (X0.out.kept hb1)
 clear hb1 x0 x1 hO B0 X0 hwA
 cases hok : pgOk k s with
 | false =>
  have HE : Hid (shwP k s = ⟨#[]⟩) := by show _ = _; unfold shwP; rw [hok]; rfl
  go_wp2
  go_ret
  exact ⟨by rw [HE.out]; rfl, B1.out⟩
 | true =>
  have HE : Hid (shwP k s = shoP k s) := by show _ = _; unfold shwP; rw [if_pos hok]
  have hS := fun W => hS W (pg_kind hok)
  have x0 := X1.out.cell 0
  have x1 := X1.out.cell 1
  clear hok
  go_wp2_with fail
  refine (hS _).mono ?_
  rintro e w2 ⟨rfl, hb2⟩
  have B2 := hH_ (B1.out.trans (hb2.mono B1.out.size))
  clear hb2 B1 X1 x0 x1
  go_wp2
  go_ret
  exact ⟨by rw [HE.out]; rfl, B2.out⟩
open Go.RowKit Pg

def rdT (s : ByteArray) : Nat → Int × ByteArray
 | 0 => (4, ⟨#[]⟩)
 | m + 1 => if preB (wrd ((m : Int) + 1)) s = true then ((m : Int) + 1, s.extract (wrd ((m : Int) + 1)).size s.size) else rdT s m
theorem rdT_is (s : ByteArray) : rdT s 3 = rdP s := by
 have h1 : wrd (((0 : Nat) : Int) + 1) = kyW := rfl
 have h2 : wrd (((1 : Nat) : Int) + 1) = tgW := rfl
 have h3 : wrd (((2 : Nat) : Int) + 1) = bgW := rfl
 show (if preB (wrd (((2 : Nat) : Int) + 1)) s = true then _ else if preB (wrd (((1 : Nat) : Int) + 1)) s = true then _ else if preB (wrd (((0 : Nat) : Int) + 1)) s = true then _ else _) = _
 rw [h1, h2, h3]
 rfl
theorem rdT_size (s : ByteArray) : ∀ m, (rdT s m).2.size ≤ s.size
 | 0 => Nat.zero_le _
 | m + 1 => by
  unfold rdT
  split
  ·
   show (s.extract _ _).size ≤ _
   rw [ByteArray.size_extract]
   omega
  ·
   exact rdT_size s m
theorem same15 {a b : ByteArray} : (a.toList == b.toList) = decide (a = b) := by
 by_cases h : a = b
 ·
  subst h; simp
 ·
  rw [decide_eq_false h]
  have : ¬ a.toList = b.toList := fun e => h (by rw [ByteArray.toList_eq, ByteArray.toList_eq] at e; exact ByteArray.ext (Array.toList_inj.1 e))
  simp [this]
structure Pr (w W : World) (k : Int) (t : ByteArray) : Prop where
 low : Below w.heap.size w W
 rx : Bx W w.heap.size 87 #[.int .i64 0, .string ⟨#[]⟩]
 bx : Bx W (w.heap.size + 1) 87 #[.int .i64 k, .string t]
 tx : Bx W (w.heap.size + 1 + 1) 9 #[.string kyW, .string tgW, .string bgW]
theorem Pr.kept {w W W' : World} {k : Int} {t : ByteArray} (h : Pr w W k t) (hb : Below W.heap.size W W') : Pr w W' k t :=
 ⟨h.low.trans (hb.mono h.low.size), h.rx.kept hb, h.bx.kept hb, h.tx.kept hb⟩
theorem Pr.drew {w W : World} {k : Int} {t : ByteArray} (h : Pr w W k t) : Pr w W.drew k t := h.kept ⟨rfl, rfl, rfl, Nat.le_refl _, fun _ _ => rfl⟩
theorem Pr.put {w W : World} {k : Int} {t : ByteArray} (h : Pr w W k t) (k' : Int) (t' : ByteArray) : Pr w ((W.setCell ⟨w.heap.size + 1, 0, none⟩ (.int .i64 k')).setCell ⟨w.heap.size + 1, 1, none⟩ (.string t')) k' t' :=
 ⟨(h.low.setCell (Nat.le_succ _) _).setCell (Nat.le_succ _) _, (h.rx.other _ _ (by omega)).other _ _ (by omega), (h.bx.put 0 _).put 1 _, (h.tx.other _ _ (by omega)).other _ _ (by omega)⟩
theorem Pr.word {w W : World} {k : Int} {t : ByteArray} (h : Pr w W k t) {m : Nat} (hm : m < 3) : W.cell? ⟨w.heap.size + 1 + 1, m, none⟩ = some (.string (wrd ((m : Int) + 1))) := by
 rw [h.tx.cell]
 rcases (by omega : m = 0 ∨ m = 1 ∨ m = 2) with rfl | rfl | rfl <;> rfl
theorem Pr.new (w : World) : Pr w (((w.alloc (.cells #[.int .i64 0, .string ⟨#[]⟩] 87)).alloc (.cells #[.int .i64 4, .string ⟨#[]⟩] 87)).alloc (.cells #[.string kyW, .string tgW, .string bgW] 9)) 4 ⟨#[]⟩ := by
 have e1 : (w.alloc (.cells #[.int .i64 0, .string ⟨#[]⟩] 87)).heap.size = w.heap.size + 1 := by simp
 have e2 : ((w.alloc (.cells #[.int .i64 0, .string ⟨#[]⟩] 87)).alloc (.cells #[.int .i64 4, .string ⟨#[]⟩] 87)).heap.size = w.heap.size + 1 + 1 := by simp
 have b1 := Bx.new (w.alloc (.cells #[.int .i64 0, .string ⟨#[]⟩] 87)) 87 #[.int .i64 4, .string ⟨#[]⟩]
 rw [e1] at b1
 have b2 := Bx.new ((w.alloc (.cells #[.int .i64 0, .string ⟨#[]⟩] 87)).alloc (.cells #[.int .i64 4, .string ⟨#[]⟩] 87)) 9 #[.string kyW, .string tgW, .string bgW]
 rw [e2] at b2
 exact ⟨(((Below.refl _ w).alloc (Nat.le_refl _) _).alloc (by omega) _).alloc (by omega) _, ((Bx.new w 87 _).alloc _).alloc _, b1.alloc _, b2⟩
theorem specRdp (s : ByteArray) (w : World) (hs : s.size ≤ 1048576) :
  Calls Tryz.prog 71 #[.string s] w fun e w' => e = .returned (.tuple #[pgV (rdV s).1 (rdV s).2, .bool (rdB s)]) ∧ Below w.heap.size w w' := by
 have hS := fun W => specShp (rdP s).1 (rdP s).2 W (by rw [← rdT_is]; have := rdT_size s 3; omega)
 have P0 : Hid (Pr w (((w.alloc (.cells #[.int .i64 0, .string ⟨#[]⟩] 87)).alloc (.cells #[.int .i64 4, .string ⟨#[]⟩] 87)).alloc (.cells #[.string kyW, .string tgW, .string bgW] 9)) (rdT s 0).1 (rdT s 0).2) := (show Pr w _ _ _ from Pr.new w)
 have HT : Hid (rdT s 3 = rdP s) := rdT_is s
 unfold pgV at *
 go_enter Tryz.func71, Tryz.ntmps71
 go_wp2_with fail
 unfold kyW tgW bgW at P0
 generalize ((w.alloc (.cells #[.int .i64 0, .string ⟨#[]⟩] 87)).alloc (.cells #[.int .i64 4, .string ⟨#[]⟩] 87)).alloc (.cells #[.string ⟨#[107, 101, 121, 32]⟩, .string ⟨#[116, 97, 103, 32]⟩, .string ⟨#[98, 101, 103, 105, 110, 32]⟩] 9) = W0 at P0 ⊢
 go_loopw [6] (fun i wr => ∃ m : Nat, m ≤ 3 ∧ i = .int .i64 m ∧ Hid (Pr w wr (rdT s m).1 (rdT s m).2)) (fun i _ => 3 - (intOf i).toNat)
 case atStart => exact ⟨0, Nat.zero_le _, rfl, P0⟩
 case round =>
  clear P0
  obtain ⟨m, hm, rfl, hP⟩ := hrel
  by_cases hlt : m < 3
  ·
   have hmi : (m : Int) < 3 := by omega
   have c1 := hP.out.word hlt
   have HN : Hid (rdT s (m + 1) = if preB (wrd ((m : Int) + 1)) s = true then ((m : Int) + 1, s.extract (wrd ((m : Int) + 1)).size s.size) else rdT s m) := hH_ (rfl)
   have hw9 : (wrd ((m : Int) + 1)).size ≤ 6 := by unfold wrd; split; decide; split; decide; decide
   have HPB : Hid (preB (wrd ((m : Int) + 1)) s = (decide ((wrd ((m : Int) + 1)).size < s.size) && decide (s.extract 0 (wrd ((m : Int) + 1)).size = wrd ((m : Int) + 1)))) := hH_ (rfl)
   generalize rdT s m = q at hP HN
   obtain ⟨q1, q2⟩ := q
   generalize wrd ((m : Int) + 1) = W at c1 HN hw9 HPB
   generalize preB W s = pb at HN HPB
   by_cases hW : W.size < s.size
   ·
    have hWi : (W.size : Int) < (s.size : Int) := by omega
    have hcmp : ((s.extract 0 W.size).toList == W.toList) = pb := by rw [HPB.out, same15, decide_eq_true hW, Bool.true_and]
    clear HPB
    cases pb with
    | true =>
     have P1 : Hid (Pr w ((wr.setCell ⟨w.heap.size + 1, 0, none⟩ (.int .i64 ((m : Int) + 1))).setCell ⟨w.heap.size + 1, 1, none⟩ (.string (s.extract W.size s.size))) (rdT s (m + 1)).1 (rdT s (m + 1)).2) := by
      show Pr w _ _ _
      rw [HN.out]
      exact hP.out.put _ _
     have y0 := hP.out.bx.cell 0
     have y1 := hP.out.bx.cell 1
     have f0 := hP.out.bx.free 0
     have f1 := hP.out.bx.free 1
     clear HN hP
     go_wp2_with fail
     go_region
     all_goals
      go_wp2
      go_roundw
      case rel => exact ⟨m + 1, by omega, by go_num, (show Hid _ from P1.out.drew)⟩
      case measure => simp [intOf]; omega
    | false =>
     have P1 : Hid (Pr w wr (rdT s (m + 1)).1 (rdT s (m + 1)).2) := by
      show Pr w _ _ _
      rw [HN.out]
      exact hP.out
     clear HN hP
     go_wp2_with fail
     go_region
     all_goals
      go_wp2
      go_roundw
      case rel => exact ⟨m + 1, by omega, by go_num, (show Hid _ from P1.out.drew)⟩
      case measure => simp [intOf]; omega
   ·
    have hWi : ¬ (W.size : Int) < (s.size : Int) := by omega
    obtain rfl : pb = false := by rw [HPB.out, decide_eq_false hW]; rfl
    have P1 : Hid (Pr w wr (rdT s (m + 1)).1 (rdT s (m + 1)).2) := by
     show Pr w _ _ _
     rw [HN.out]
     exact hP.out
    clear HN hP HPB
    go_wp2_with fail
    go_region
    all_goals
     go_wp2
     go_roundw
     case rel => exact ⟨m + 1, by omega, by go_num, (show Hid _ from P1.out.drew)⟩
     case measure => simp [intOf]; omega
  ·
   obtain rfl : m = 3 := by omega
   rw [HT.out] at hP
   have HB : Hid (rdB s = decide (shwP (rdP s).1 (rdP s).2 = s)) := hH_ (rfl)
   have HV : Hid (rdV s = if rdB s = true then rdP s else (0, ⟨#[]⟩)) := hH_ (rfl)
   generalize rdP s = q at hP hS HB HV
   obtain ⟨q1, q2⟩ := q
   have hcmp : ((shwP q1 q2).toList == s.toList) = rdB s := by rw [HB.out, same15]
   have y0 := hP.out.bx.cell 0
   have y1 := hP.out.bx.cell 1
   simp only at hS y0 y1
   generalize shwP q1 q2 = T at hS hcmp
   obtain ⟨V, hV⟩ : ∃ V, rdV s = V := ⟨_, rfl⟩
   obtain ⟨rb, hrb⟩ : ∃ rb, rdB s = rb := ⟨_, rfl⟩
   have HV1 : Hid (rdV s = V) := hV
   have HB1 : Hid (rdB s = rb) := hrb
   rw [hV, hrb] at HV
   rw [hrb] at hcmp
   clear HB HT hV hrb
   go_wp2_with fail
   refine (hS _).mono ?_
   rintro e w1 ⟨rfl, hb1⟩
   have P1 : Hid (Pr w w1 q1 q2) := (show Pr w _ _ _ from hP.out.kept hb1)
   clear hb1 hP y0 y1 hS
   have y0 := P1.out.bx.cell 0
   have y1 := P1.out.bx.cell 1
   have z0 := P1.out.rx.cell 0
   have z1 := P1.out.rx.cell 1
   have f0 := P1.out.rx.free 0
   have f1 := P1.out.rx.free 1
   have HL := P1.out.low
   have hne : w.heap.size ≠ w.heap.size + 1 := by omega
   cases rb with
   | false =>
    have hcm2 : (T.toList != s.toList) = true := by simp [bne, hcmp]
    obtain rfl : V = (0, ⟨#[]⟩) := HV.out
    go_wp2
    refine bodyPost_ret (v := .tuple #[.agg #[.int .i64 0, .string ⟨#[]⟩], .bool false]) (by simp [results, Tryz.results71, go_sem, z0, z1]) rfl ⟨by rw [HV1.out, HB1.out], (HL.setCell (Nat.le_refl _) _).setCell (Nat.le_refl _) _⟩
   | true =>
    have hcm2 : (T.toList != s.toList) = false := by simp [bne, hcmp]
    obtain rfl : V = (q1, q2) := HV.out
    go_wp2
    refine bodyPost_ret (v := .tuple #[.agg #[.int .i64 q1, .string q2], .bool true]) (by simp [results, Tryz.results71, go_sem, z0, z1]) rfl ⟨by rw [HV1.out, HB1.out], (HL.setCell (Nat.le_refl _) _).setCell (Nat.le_refl _) _⟩
open Go.RowKit Pg

theorem cellsG_at (l : List ByteArray) (j : Nat) (hj : j < l.length) : (cellsE txtE l)[j]? = some (.string l[j]) := by
 have := cellsE_at txtE l j hj 0 (by decide)
 rw [show j * txtE.k + 0 = j from by show j * 1 + 0 = j; omega] at this
 exact this
theorem Sls.txtG {w : World} {v : Value} {l : List ByteArray} (h : Sls txtE w v l) : ∃ a cap, v = .slice a l.length cap ∧ l.length ≤ cap ∧ cap ≤ maxLen ∧ (0 < l.length → ∃ g o, a = some ⟨g, o, Option.none⟩ ∧ g < w.heap.size ∧
  ∀ j (hj : j < l.length), w.cell? ⟨g, o + j, Option.none⟩ = some (.string l[j])) := by
 obtain ⟨a, cap, hv, h1, h2, h3⟩ := h
 refine ⟨a, cap, hv, h1, h2, fun h0 => ?_⟩
 obtain ⟨g, o, ha, hg, hc⟩ := h3 h0
 exact ⟨g, o, ha, hg, fun j hj => hc j _ (cellsG_at l j hj)⟩
theorem log_step {L : List ByteArray} {k : Nat} (h : k < L.length) (ha : (L.take k).all rdB = true) (hp : rdB L[k] = true) : (L.take (k + 1)).all rdB = true := by
 rw [List.take_succ_eq_append_getElem h, List.all_append, ha]
 simp [hp]
theorem log_bad {L : List ByteArray} {k : Nat} (h : k < L.length) (hp : rdB L[k] = false) : L.all rdB = false := by
 rw [List.all_eq_false]
 exact ⟨L[k], List.getElem_mem h, by simp [hp]⟩
theorem specLog (v : Value) (L : List ByteArray) (w : World) (h : Sls txtE w v L) (hs : ∀ x ∈ L, x.size ≤ 1048576) :
  Calls Tryz.prog 61 #[v] w fun e w' => e = .returned (.bool (logB L)) ∧ Below w.heap.size w w' := by
 obtain ⟨a, cap, rfl, h1, h2, h3⟩ := h.txtG
 have HC : Hid (0 < L.length → ∃ g o, a = some ⟨g, o, Option.none⟩ ∧ g < w.heap.size ∧ ∀ j (hj : j < L.length), w.cell? ⟨g, o + j, Option.none⟩ = some (.string L[j])) := h3
 have HS : Hid (∀ x ∈ L, x.size ≤ 1048576) := hs
 have hR := fun s W h => specRdp s W h
 unfold pgV at hR
 unfold maxLen at h2
 have hll : L.length ≤ 9223372036854775807 := by omega
 have H2 : Hid (cap ≤ 9223372036854775807) := (show cap ≤ _ by omega)
 clear h h2 h3 hs
 by_cases hb : 60 < L.length
 ·
  have HE : Hid (false = logB L) := by show _ = _; unfold logB; rw [decide_eq_false (by omega)]; rfl
  have hbi : 60 < (L.length : Int) := by omega
  go_enter Tryz.func61, Tryz.ntmps61
  go_wp2
  go_ret
  exact ⟨congrArg (fun b => Ending.returned (.bool b)) HE.out, Below.refl _ _⟩
 ·
  have HT : Hid (logB L = L.all rdB) := by show _ = _; unfold logB; rw [decide_eq_true (by omega)]; rfl
  have hbi : ¬ 60 < (L.length : Int) := by omega
  go_enter Tryz.func61, Tryz.ntmps61
  go_wp2
  go_loopw [3] (fun i wr => ∃ j : Nat, j ≤ L.length ∧ i = .int .i64 j ∧ Hid ((L.take j).all rdB = true) ∧ Hid (Below w.heap.size w wr)) (fun i _ => L.length - (intOf i).toNat)
  case atStart => exact ⟨0, Nat.zero_le _, rfl, (show Hid _ from rfl), (show Hid _ from Below.refl _ _)⟩
  case round =>
   obtain ⟨j, hj, rfl, hall, hb0⟩ := hrel
   by_cases hlt : j < L.length
   ·
    obtain ⟨g, o, rfl, hg, hc⟩ := HC.out (by omega)
    have c1 := (hb0.out.cell (p := ⟨g, o + j, none⟩) hg).trans (hc j hlt)
    have hji : (j : Int) < (L.length : Int) := by omega
    have HA := fun (h : rdB L[j] = true) => log_step hlt hall.out h
    have HN := fun (h : rdB L[j] = false) => log_bad hlt h
    have hRj := fun W => hR L[j] W (HS.out _ (List.getElem_mem hlt))
    generalize L[j] = x at c1 HA HN hRj
    generalize rdV x = V at hRj
    obtain ⟨V1, V2⟩ := V
    simp only at hRj
    clear hc hR
    cases hrb : rdB x with
    | false =>
     have HE : Hid (false = logB L) := by show _ = _; rw [HT.out, HN hrb]
     rw [hrb] at hRj
     clear HA HN hrb
     go_wp2_with fail
     refine (hRj _).mono ?_
     rintro e w1 ⟨rfl, hb1⟩
     have B1 : Hid (Below w.heap.size w (w1.alloc (.cells #[.int .i64 V1, .string V2] 87))) := hH_ ((hb0.out.trans (hb1.mono hb0.out.size)).alloc (by have := hb0.out.size; have := hb1.size; omega) _)
     clear hb1 hb0 hRj
     go_wp2
     go_ret
     exact ⟨congrArg (fun b => Ending.returned (.bool b)) HE.out, B1.out⟩
    | true =>
     have HA2 : Hid _ := HA hrb
     rw [hrb] at hRj
     clear HA HN hrb
     go_wp2_with fail
     refine (hRj _).mono ?_
     rintro e w1 ⟨rfl, hb1⟩
     have B1 : Hid (Below w.heap.size w (w1.alloc (.cells #[.int .i64 V1, .string V2] 87))) := hH_ ((hb0.out.trans (hb1.mono hb0.out.size)).alloc (by have := hb0.out.size; have := hb1.size; omega) _)
     clear hb1 hb0 hRj
     go_wp2
     go_roundw
     case rel => exact ⟨j + 1, by omega, by go_num, HA2, B1⟩
     case measure => simp [intOf]; omega
   ·
    obtain rfl : j = L.length := by omega
    have HE : Hid (true = logB L) := by
     have := hall.out
     rw [List.take_length] at this
     show _ = _
     rw [HT.out, this]
    go_wp2
    go_ret
    exact ⟨congrArg (fun b => Ending.returned (.bool b)) HE.out, hb0.out⟩
end Go.Proofs.YtdkhdjickkcaiaaGreat
namespace Go.Proofs.YtdkhdjickkcaiaaGreat.Rl
open Go.RowKit Go.Sort Pg

open Classical in
noncomputable def msB (m : Ms) (p : Int) : Bool := decide (MsOk m p)
open Classical in
theorem msB_no {m : Ms} {p : Int} (h : ¬ MsOk m p) : msB m p = false := by unfold msB; exact decide_eq_false h
open Classical in
theorem msB_yes {m : Ms} {p : Int} (h : MsOk m p) : msB m p = true := by unfold msB; exact decide_eq_true h
abbrev pOk (p : Int) : Prop := p = 1 ∨ p = 3 ∨ p = 5
theorem inM_yes {n lo hi : Int} (h : inM n lo hi = true) : lo ≤ n ∧ n ≤ hi := of_decide_eq_true h
theorem inM_no {n lo hi : Int} (h : inM n lo hi = false) : ¬ (lo ≤ n ∧ n ≤ hi) := of_decide_eq_false h
theorem specPrs (p : Int) (w : World) : Calls Tryz.prog 59 #[.int .i64 p] w fun e w' => e = .returned (.bool (decide (pOk p))) ∧ w = w' := by
 by_cases h1 : p = 1
 ·
  subst h1
  have hd : Hid (decide (pOk 1) = true) := hH_ (decide_eq_true (.inl rfl))
  go_enter Tryz.func59, Tryz.ntmps59
  go_wp2
  go_ret
  exact ⟨congrArg (fun b => Ending.returned (.bool b)) hd.out.symm, rfl⟩
 by_cases h3 : p = 3
 ·
  subst h3
  have hd : Hid (decide (pOk 3) = true) := hH_ (decide_eq_true (.inr (.inl rfl)))
  go_enter Tryz.func59, Tryz.ntmps59
  go_wp2
  go_ret
  exact ⟨congrArg (fun b => Ending.returned (.bool b)) hd.out.symm, rfl⟩
 have e1 : (p == 1) = false := by simpa using h1
 have e3 : (p == 3) = false := by simpa using h3
 by_cases h5 : p = 5
 ·
  subst h5
  have hd : Hid (decide (pOk 5) = true) := hH_ (decide_eq_true (.inr (.inr rfl)))
  go_enter Tryz.func59, Tryz.ntmps59
  go_wp2
  go_ret
  exact ⟨congrArg (fun b => Ending.returned (.bool b)) hd.out.symm, rfl⟩
 have e5 : (p == 5) = false := by simpa using h5
 have hd : Hid (decide (pOk p) = false) := hH_ (decide_eq_false (fun h => by rcases h with h | h | h <;> contradiction))
 go_enter Tryz.func59, Tryz.ntmps59
 go_wp2
 go_ret
 exact ⟨congrArg (fun b => Ending.returned (.bool b)) hd.out.symm, rfl⟩
theorem Sls.slen0 {α : Type} {E : Enc α} {w : World} {v : Value} {l : List α} (h : Sls E w v l) : ∃ a c, v = .slice a l.length c := by obtain ⟨a, c, hv, _⟩ := h; exact ⟨a, c, hv⟩
theorem logB_len {L : List ByteArray} (h : logB L = true) : L.length ≤ 60 := by
 unfold logB at h
 rw [Bool.and_eq_true] at h
 exact of_decide_eq_true h.1
theorem specMok (m : Ms) (u : Value) (p : Int) (w : World) (h : Sls txtE w u m.l) (hs : ∀ x ∈ m.l, x.size ≤ 1048576) (hp : pOk p) :
  Calls Tryz.prog 63 #[msA m u, .int .i64 p] w fun e w' => e = .returned (.bool (msB m p)) ∧ Below w.heap.size w w' := by
 have j1 := fun W => inRm m.k 1 4 W
 have j2 := fun W => inRm m.f 0 (p - 1) W
 have j3 := fun W => inRm m.t 0 (p - 1) W
 have j4 := fun W => inRm m.v 0 10000 W
 have j5 := fun W => inRm m.la 0 m.v W
 have j6 := fun W (hW : Below w.heap.size w W) => specLog u m.l W (h.kept hW) hs
 have j7 := fun W => inRm m.c 0 60 W
 have j8 := fun W => inRm m.c 0 (m.l.length : Int) W
 have ew : wrap64 (p - 1) = p - 1 := by unfold wrap64; rcases hp with rfl | rfl | rfl <;> decide
 have HF : Hid (∀ b, (¬ MsOk m p) → b = false → Ending.returned (.bool b) = .returned (.bool (msB m p))) := hH_ (fun b h1 h2 => by rw [h2, msB_no h1])
 have HE : Hid (∀ b, (MsOk m p ↔ b = true) → Ending.returned (.bool b) = .returned (.bool (msB m p))) := (show ∀ _, _ from fun b h1 => by
  cases b with
  | true => rw [msB_yes (h1.2 rfl)]
  | false => rw [msB_no (fun hh => by have := h1.1 hh; cases this)])
 obtain ⟨a, cap, hv⟩ := Sls.slen0 h
 have hl60 : Hid (logB m.l = true → m.l.length ≤ 60) := hH_ (fun hh => logB_len hh)
 subst hv
 unfold msA
 have B0 : Hid (Below w.heap.size w (w.alloc (.cells #[.int .i64 m.k, .int .i64 m.f, .int .i64 m.t, .int .i64 m.v, .int .i64 m.la, .slice a m.l.length cap, .int .i64 m.c] 30))) := hH_ ((Below.refl _ w).alloc (Nat.le_refl _) _)
 clear h hs
 go_enter Tryz.func63, Tryz.ntmps63
 go_wp2_with fail
 refine (j1 _).mono ?_
 rintro e w1 ⟨rfl, rfl⟩
 cases b1 : inM m.k 1 4 with
 | false =>
  go_wp2
  go_ret
  exact ⟨HF.out _ (fun h => inM_no b1 h.k) rfl, B0.out⟩
 | true =>
 go_wp2_with fail
 refine (j2 _).mono ?_
 rintro e w1 ⟨rfl, rfl⟩
 cases b2 : inM m.f 0 (p - 1) with
 | false =>
  go_wp2
  go_ret
  exact ⟨HF.out _ (fun h => (inM_no b2 ⟨h.f.1, by have := h.f.2; omega⟩)) rfl, B0.out⟩
 | true =>
 go_wp2_with fail
 refine (j3 _).mono ?_
 rintro e w1 ⟨rfl, rfl⟩
 cases b3 : inM m.t 0 (p - 1) with
 | false =>
  go_wp2
  go_ret
  exact ⟨HF.out _ (fun h => (inM_no b3 ⟨h.t.1, by have := h.t.2; omega⟩)) rfl, B0.out⟩
 | true =>
 go_wp2_with fail
 refine (j4 _).mono ?_
 rintro e w1 ⟨rfl, rfl⟩
 cases b4 : inM m.v 0 10000 with
 | false =>
  go_wp2
  go_ret
  exact ⟨HF.out _ (fun h => inM_no b4 h.v) rfl, B0.out⟩
 | true =>
 go_wp2_with fail
 refine (j5 _).mono ?_
 rintro e w1 ⟨rfl, rfl⟩
 cases b5 : inM m.la 0 m.v with
 | false =>
  go_wp2
  go_ret
  exact ⟨HF.out _ (fun h => inM_no b5 h.la) rfl, B0.out⟩
 | true =>
 go_wp2_with fail
 refine (j6 _ B0.out).mono ?_
 rintro e w1 ⟨rfl, hb⟩
 have XA : Hid (Bx w1 w.heap.size 30 #[.int .i64 m.k, .int .i64 m.f, .int .i64 m.t, .int .i64 m.v, .int .i64 m.la, .slice a m.l.length cap, .int .i64 m.c]) := hH_ (Bx.kept (Bx.new _ _ _) hb)
 have B1 := hH_ (B0.out.trans (hb.mono B0.out.size))
 clear hb B0
 cases b6 : logB m.l with
 | false =>
  go_wp2
  go_ret
  exact ⟨HF.out _ (fun h => (by have := h.l; rw [b6] at this; cases this)) rfl, B1.out⟩
 | true =>
 have x0 := XA.out.cell 0
 have x5 := XA.out.cell 5
 have x6 := XA.out.cell 6
 have HA : Hid (m.l.length ≤ 60) := hl60.out b6
 have OK : Hid (∀ hc, MsOk m p) := (show ∀ _ : (if m.k = 2 then 0 ≤ m.c ∧ m.c ≤ 60 else 0 ≤ m.c ∧ m.c ≤ (m.l.length : Int)), MsOk m p from fun hc => ⟨inM_yes b1, by have := inM_yes b2; omega, by have := inM_yes b3; omega, inM_yes b4, inM_yes b5, b6, hc⟩)
 clear j1 j2 j3 j4 j5 j6 b1 b2 b3 b4 b5 b6
 by_cases hk : m.k = 2
 ·
  rw [hk] at x0
  have HK : Hid (m.k = 2) := hk
  go_wp2_with fail
  refine (j7 _).mono ?_
  rintro e w2 ⟨rfl, rfl⟩
  go_wp2
  go_ret
  refine ⟨HE.out _ ⟨fun h => ?_, fun h => OK.out ?_⟩, B1.out⟩
  ·
   have := h.c
   rw [if_pos HK.out] at this
   exact decide_eq_true this
  ·
   rw [if_pos HK.out]
   exact inM_yes h
 ·
  have hkb : (m.k == 2) = false := by simpa using hk
  have HK : Hid (¬ m.k = 2) := hk
  go_wp2_with fail
  refine (j8 _).mono ?_
  rintro e w2 ⟨rfl, rfl⟩
  go_wp2
  go_ret
  refine ⟨HE.out _ ⟨fun h => ?_, fun h => OK.out ?_⟩, B1.out⟩
  ·
   have := h.c
   rw [if_neg HK.out] at this
   exact decide_eq_true this
  ·
   rw [if_neg HK.out]
   exact inM_yes h
end Go.Proofs.YtdkhdjickkcaiaaGreat.Rl
namespace Go.Proofs.YtdkhdjickkcaiaaGreat
open Go.RowKit Pg

theorem implSo2 (s : ByteArray) (w : World) (hs : s.size ≤ 1048576) :
  Calls Tryz.prog 162 #[.string s, .int .i64 200] w fun e w' => e = .returned (.bool (allB keyN s.data.toList && decide (s.size ≤ 200))) ∧ w = w' := by
 obtain ⟨K, hK⟩ : ∃ K, (allB keyN s.data.toList && decide (s.size ≤ 200)) = K := ⟨_, rfl⟩
 rw [hK]
 have HK : Hid (K = (allB keyN s.data.toList && decide (s.size ≤ 200))) := hK.symm
 clear hK
 by_cases h5 : (200 : Int) < (s.size : Int)
 ·
  have HF : Hid (false = K) := by show _ = _; rw [HK.out, decide_eq_false (by omega), Bool.and_false]
  go_enter Tryz.func162, Tryz.ntmps162
  go_wp2
  go_ret
  exact ⟨ret_bool HF.out, rfl⟩
 ·
  go_enter Tryz.func162, Tryz.ntmps162
  go_wp2
  go_loop [12] (fun i => ∃ k : Nat, k ≤ s.size ∧ i = .int .i64 k ∧ Hid (allB keyN (s.data.toList.take k) = true)) (fun i => s.size - (intOf i).toNat)
  case atStart => exact ⟨0, Nat.zero_le _, rfl, allB_nil _ _⟩
  case round =>
   obtain ⟨k, hk, rfl, ha⟩ := hrel
   by_cases hlt : k < s.size
   ·
    by_cases hl : (s[k].toNat : Int) < 33
    ·
     have HF : Hid (false = K) := by show _ = _; rw [HK.out, ← allB_not (p := keyN) hlt (keyN_no (by omega))]; rfl
     go_wp2
     go_ret
     exact ⟨ret_bool HF.out, rfl⟩
    ·
     by_cases hg : 126 < (s[k].toNat : Int)
     ·
      have HF : Hid (false = K) := by show _ = _; rw [HK.out, ← allB_not (p := keyN) hlt (keyN_no (by omega))]; rfl
      go_wp2
      go_ret
      exact ⟨ret_bool HF.out, rfl⟩
     ·
      have HV : Hid (allB keyN (s.data.toList.take (k + 1)) = true) := allB_step hlt ha.out (keyN_yes (by omega))
      go_wp2
      go_round
      case rel => exact ⟨k + 1, by omega, by go_num, HV⟩
      case measure => simp [intOf]; omega
   ·
    have HE : Hid (true = K) := by
     show _ = _
     have e : s.data.toList.take k = s.data.toList := List.take_of_length_le (by simp; omega)
     have h2 := ha.out
     rw [e] at h2
     rw [HK.out, h2, Bool.true_and, decide_eq_true (by omega)]
    go_wp2
    go_ret
    exact ⟨ret_bool HE.out, rfl⟩
theorem void_of {s : ByteArray} : (s.toList == []) = decide (s.size = 0) := by
 have hlen : s.data.toList.length = s.size := by simp
 rw [ByteArray.toList_eq, ← hlen]
 cases s.data.toList <;> simp
theorem tx_is {s : ByteArray} (h : ¬ s.size = 0) : txOk s = (allB keyN s.data.toList && decide (s.size ≤ 200)) := by
 unfold txOk
 by_cases h2 : s.size ≤ 200
 ·
  rw [decide_eq_true h2, decide_eq_true (show 1 ≤ s.size ∧ s.size ≤ 200 from ⟨by omega, h2⟩)]
  simp
 ·
  rw [decide_eq_false h2, decide_eq_false (fun h : 1 ≤ s.size ∧ s.size ≤ 200 => h2 h.2)]
  simp
theorem implPgo (k : Int) (s : ByteArray) (w : World) (hs : s.size ≤ 1048576) :
  Calls Tryz.prog 145 #[pgV k s] w fun e w' => e = .returned (.bool (pgOk k s)) ∧ Below w.heap.size w w' := by
 have hS := fun W => implSo2 s W hs
 have B0 : Hid (Below w.heap.size w (w.alloc (.cells #[.int .i64 k, .string s] 87))) := (Below.refl _ w).alloc (Nat.le_refl _) _
 have X0 := Bx.new w 87 #[.int .i64 k, .string s]
 unfold pgV
 have hv := void_of (s := s)
 have HTX := fun h => tx_is (s := s) h
 generalize (allB keyN s.data.toList && decide (s.size ≤ 200)) = q at hS HTX
 go_enter Tryz.func145, Tryz.ntmps145
 generalize hwA : w.alloc (.cells #[.int .i64 k, .string s] 87) = wA at B0 X0
 have x0 := X0.cell 0
 have x1 := X0.cell 1
 clear X0
 by_cases h13 : 1 ≤ k ∧ k ≤ 3
 ·
  have HR : Hid (pgOk k s = txOk s) := by show _ = _; unfold pgOk; rw [if_neg (by omega), decide_eq_true h13]; rfl
  by_cases h0 : s.size = 0
  ·
   have HE : Hid (false = pgOk k s) := by show _ = _; rw [HR.out]; unfold txOk; rw [decide_eq_false (fun h : 1 ≤ s.size ∧ s.size ≤ 200 => by omega)]; rfl
   rw [decide_eq_true h0] at hv
   have hn : (s.toList != []) = false := by simp [bne, hv]
   clear hS HTX h0
   rcases (show k = 1 ∨ k = 2 ∨ k = 3 by omega) with rfl | rfl | rfl
   all_goals
    go_wp2
    go_ret
    exact ⟨ret_bool HE.out, B0.out⟩
  ·
   have HE : Hid (q = pgOk k s) := by show _ = _; rw [HR.out, HTX h0]
   rw [decide_eq_false h0] at hv
   have hn : (s.toList != []) = true := by simp [bne, hv]
   clear HTX h0
   rcases (show k = 1 ∨ k = 2 ∨ k = 3 by omega) with rfl | rfl | rfl
   all_goals
    go_wp2_with fail
    refine (hS _).mono ?_
    rintro e w1 ⟨rfl, rfl⟩
    go_wp2
    go_ret
    exact ⟨ret_bool HE.out, B0.out⟩
 ·
  by_cases h4 : k = 4
  ·
   subst h4
   have HR : Hid (s.toList.isEmpty = pgOk 4 s) := by show _ = _; rw [show s.toList.isEmpty = (s.toList == []) from by cases s.toList <;> rfl, hv]; rfl
   clear hS HTX hv
   go_wp2
   go_ret
   exact ⟨ret_bool HR.out, B0.out⟩
  ·
   have HE : Hid (false = pgOk k s) := by show _ = _; unfold pgOk; rw [if_neg h4, decide_eq_false h13]; rfl
   have k1 : ¬ k = 1 := by omega
   have k2 : ¬ k = 2 := by omega
   have k3 : ¬ k = 3 := by omega
   clear hS HTX hv h13
   go_wp2
   go_ret
   exact ⟨ret_bool HE.out, B0.out⟩
theorem implShp (k : Int) (s : ByteArray) (w : World) (hs : s.size ≤ 1048576) :
  Calls Tryz.prog 146 #[pgV k s] w fun e w' => e = .returned (.string (shwP k s)) ∧ Below w.heap.size w w' := by
 have hO := fun W => implPgo k s W hs
 have B0 : Hid (Below w.heap.size w (w.alloc (.cells #[.int .i64 k, .string s] 87))) := (Below.refl _ w).alloc (Nat.le_refl _) _
 have X0 : Hid (Bx (w.alloc (.cells #[.int .i64 k, .string s] 87)) w.heap.size 87 #[.int .i64 k, .string s]) := hH_ (Bx.new w 87 #[.int .i64 k, .string s])
 unfold pgV at *
 go_enter Tryz.func146, Tryz.ntmps146
 generalize hwA : w.alloc (.cells #[.int .i64 k, .string s] 87) = wA at B0 X0
 have x0 := X0.out.cell 0
 have x1 := X0.out.cell 1
 go_wp2_with fail
 refine (hO _).mono ?_
 rintro e w1 ⟨rfl, hb1⟩
 have B1 := hH_ (B0.out.trans (hb1.mono B0.out.size))
 have X1 := hH_ (X0.out.kept hb1)
 clear hb1 x0 x1 hO B0 X0 hwA
 cases hok : pgOk k s with
 | false =>
  have HE : Hid (shwP k s = ⟨#[]⟩) := by show _ = _; unfold shwP; rw [hok]; rfl
  go_wp2
  go_ret
  exact ⟨by rw [HE.out]; rfl, B1.out⟩
 | true =>
  have HE : Hid (shwP k s = shoP k s) := by show _ = _; unfold shwP; rw [if_pos hok]
  have hk := pg_kind hok
  have x0 := X1.out.cell 0
  have x1 := X1.out.cell 1
  clear hok
  rcases (show k = 1 ∨ k = 2 ∨ k = 3 ∨ k = 4 by omega) with rfl | rfl | rfl | rfl
  all_goals
   clear hk
   go_wp2
   go_ret
   exact ⟨by rw [HE.out]; rfl, B1.out⟩
end Go.Proofs.YtdkhdjickkcaiaaGreat

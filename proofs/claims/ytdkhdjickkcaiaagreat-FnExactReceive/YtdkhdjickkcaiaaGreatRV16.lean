/-
  Purges as plain data: what stands behind the first blank, and what is found among the four kinds.
  The program's purges by their contracts: what is read.
  The program's logs by their contracts.
  What is a right message, and so many servers: the program's, by contract.
  A right replica, part by part, as plain data.
  The program's views, logs, and who leads, by contract.
-/
import Derived.Test.YtdkhdjickkcaiaaGreatRVS
import Derived.Test.YtdkhdjickkcaiaaGreatRV09
import Derived.Lib.CutLaws
import Derived.Test.YtdkhdjickkcaiaaGreatRV15
import Derived.Test.YtdkhdjickkcaiaaGreatShelfS
import Derived.Laws.OwnMore
import Derived.Lib.QuietBelow
import Derived.BigQuiet
set_option linter.unusedVariables false
set_option linter.unusedSimpArgs false
set_option maxRecDepth 100000
set_option maxHeartbeats 64000000
namespace Go.Proofs.YtdkhdjickkcaiaaGreat.Pg
open Go.RowKit

theorem ixByte (c : UInt8) : ∀ s : List UInt8, Lib.index s [c] = Lib.indexByte s c
 | [] => rfl
 | b :: l => by
  rw [Lib.index, Lib.indexByte, ixByte c l]
  by_cases h : b = c
  ·
   subst h; simp [List.isPrefixOf]
  ·
   have h2 : ([c] : List UInt8).isPrefixOf (b :: l) = false := by simp [List.isPrefixOf, Ne.symm h]
   have h3 : (b == c) = false := by simp [h]
   rw [h2, h3]
theorem ixAt {d : UInt8} : ∀ (a b : List UInt8), d ∉ a → Lib.index (a ++ d :: b) [d] = a.length
 | [], b, _ => by rw [List.nil_append, Lib.index]; simp [List.isPrefixOf]
 | c :: a, b, h => by
  have hc : c ≠ d := fun e => h (by simp [e])
  have hp : ([d] : List UInt8).isPrefixOf (c :: (a ++ d :: b)) = false := by simp [List.isPrefixOf, Ne.symm hc]
  have ih := ixAt (d := d) a b (fun e => h (by simp [e]))
  rw [List.cons_append, Lib.index, hp, ih]
  rw [if_neg (by simp), if_neg (by simp)]
  simp
def aft (t : ByteArray) : ByteArray := ⟨(Lib.cut t.data.toList [32]).2.1.toArray⟩
theorem aft_miss {t : ByteArray} (h : Lib.indexB t ⟨#[32]⟩ = -1) : aft t = ⟨#[]⟩ := (Lib.cutB_miss t ⟨#[32]⟩ h).2.1
theorem aft_hit {t : ByteArray} {i : Nat} (h : Lib.indexB t ⟨#[32]⟩ = i) : aft t = t.extract (i + 1) t.size := (Lib.cutB_hit t ⟨#[32]⟩ i h).2.1
theorem aft_size (t : ByteArray) : (aft t).size ≤ t.size := by
 rcases Lib.indexB_cases t ⟨#[32]⟩ with h | ⟨i, h, _⟩
 ·
  rw [aft_miss h]
  exact Nat.zero_le _
 ·
  rw [aft_hit h, ByteArray.size_extract]
  omega
theorem aft_all : aft alW = ⟨#[]⟩ := aft_miss (by decide)
theorem aft_of (a : List UInt8) (p t : ByteArray) (hp : p.data.toList = a ++ [32]) (ha : (32 : UInt8) ∉ a) : aft (p ++ t) = t := by
 have e : (p ++ t).data.toList = a ++ 32 :: t.data.toList := by rw [ByteArray.data_append, Array.toList_append, hp]; simp
 have hi : Lib.indexB (p ++ t) ⟨#[32]⟩ = (a.length : Int) := by
  show Lib.index (p ++ t).data.toList [32] = _
  rw [e, ixAt _ _ ha]
 rw [aft_hit hi]
 refine rest_app p t _ ?_
 have : p.data.toList.length = p.size := by simp
 rw [← this, hp]
 simp
theorem aft_wrd {k : Int} (t : ByteArray) : aft (wrd k ++ t) = t := by
 unfold wrd
 split
 ·
  exact aft_of [107, 101, 121] kyW t rfl (by decide)
 ·
  split
  ·
   exact aft_of [116, 97, 103] tgW t rfl (by decide)
  ·
   exact aft_of [98, 101, 103, 105, 110] bgW t rfl (by decide)
theorem none_of {t : ByteArray} (h : t.size = 0) : t = ⟨#[]⟩ := ba_ext (by have := Array.eq_empty_of_size_eq_zero (show t.data.size = 0 from h); simp [this])
theorem rd_aft {s : ByteArray} (h : rdB s = true) : (rdP s).2 = aft s := by
 obtain ⟨h1, h2⟩ := rd_ok h
 generalize (rdP s).1 = k at h1 h2
 generalize (rdP s).2 = t at h1 h2
 unfold shoP at h2
 split at h2
 ·
  rename_i h4
  subst h4
  rw [← h2, aft_all]
  unfold pgOk at h1
  rw [if_pos rfl, decide_eq_true_eq] at h1
  exact none_of h1
 ·
  rw [← h2, aft_wrd]
theorem hit_rd {k : Int} {s : ByteArray} (h : pgOk k (aft s) = true) (h2 : shwP k (aft s) = s) : rdB s = true ∧ rdV s = (k, aft s) := by
 have := rd_shw h
 rw [h2] at this
 exact this
theorem kind_of {k : Int} {t : ByteArray} (h : pgOk k t = true) : 1 ≤ k ∧ k ≤ 4 := by
 unfold pgOk at h
 split at h
 ·
  omega
 ·
  rw [Bool.and_eq_true, decide_eq_true_eq] at h
  omega
theorem no_rd {s : ByteArray} (h : ∀ k : Int, 1 ≤ k → k < 5 → pgOk k (aft s) = true → shwP k (aft s) = s → False) : rdB s = false ∧ rdV s = (0, ⟨#[]⟩) := by
 have hb : rdB s = false := by
  cases e : rdB s with
  | false => rfl
  | true =>
   exfalso
   have h1 := (rd_ok e).1
   have h2 := e
   unfold rdB at h2
   rw [decide_eq_true_eq] at h2
   rw [rd_aft e] at h1 h2
   have hk := kind_of h1
   exact h _ hk.1 (by omega) h1 h2
 refine ⟨hb, ?_⟩
 unfold rdV
 rw [hb]
 rfl
end Go.Proofs.YtdkhdjickkcaiaaGreat.Pg
namespace Go.Proofs.YtdkhdjickkcaiaaGreat
open Go.RowKit Pg

theorem cutLiP (t : ByteArray) (w : World) (hs : t.size ≤ 1048576) :
  Calls Tryz.prog 161 #[.string t, .string ⟨#[32]⟩] w fun e w' => (∃ p b, e = .returned (.tuple #[.string p, .string (aft t), .bool b])) ∧ Below w.heap.size w w' := by
 have hi := Tryz.stringslite_Index_one t 32
 rw [← ixByte] at hi
 rcases Lib.indexB_cases t ⟨#[32]⟩ with hx | ⟨i, hx, hroom⟩
 ·
  rw [aft_miss hx]
  rw [show Lib.index t.data.toList [32] = -1 from hx] at hi
  go_enter Tryz.func161, Tryz.ntmps161
  go_wp2_with (go_at_call 175; refine (hi _).mono ?_; rintro e w' ⟨rfl, rfl⟩)
  go_ret3
  exact ⟨⟨_, _, rfl⟩, Below.refl _ _⟩
 ·
  rw [aft_hit hx]
  rw [show Lib.index t.data.toList [32] = i from hx] at hi
  have hr : i + 1 ≤ t.size := hroom
  have c1 : (0 : Int) ≤ (i : Int) := by omega
  have c2 : (i : Int) ≤ (t.size : Int) := by omega
  have c3 : (i : Int) + 1 ≤ (t.size : Int) := by omega
  have c4 : IntKind.i64.wrap ((i : Int) + 1) = (i : Int) + 1 := by rw [IntKind.wrap_i64]; omega
  have c5 : 0 ≤ (i : Int) + 1 := by omega
  have c6 : ((i : Int) + 1).toNat = i + 1 := by omega
  go_enter Tryz.func161, Tryz.ntmps161
  go_wp2_with (go_at_call 175; refine (hi _).mono ?_; rintro e w' ⟨rfl, rfl⟩)
  go_region
  all_goals
   go_wp2
   go_ret3
   exact ⟨⟨_, _, rfl⟩, ⟨rfl, rfl, rfl, Nat.le_refl _, fun _ _ => rfl⟩⟩
theorem cutP (t : ByteArray) (w : World) (hs : t.size ≤ 1048576) :
  Calls Tryz.prog 144 #[.string t, .string ⟨#[32]⟩] w fun e w' => (∃ p b, e = .returned (.tuple #[.string p, .string (aft t), .bool b])) ∧ Below w.heap.size w w' := by
 have k := cutLiP t
 generalize aft t = q at k
 go_enter Tryz.func144, Tryz.ntmps144
 go_wp2_with (go_at_call 161; refine (k _ hs).mono ?_; rintro e w' ⟨⟨p, b, rfl⟩, hb⟩)
 go_ret3
 exact ⟨⟨_, _, rfl⟩, hb⟩
theorem clonP (t : ByteArray) (w : World) (hs : t.size ≤ 1048576) :
  Calls Tryz.prog 119 #[.string t] w fun e w' => e = .returned (.string t) ∧ Below w.heap.size w w' := by
 have k := fun W => Tryz.stringslite_Clone t W (by omega)
 go_enter Tryz.func119, Tryz.ntmps119
 go_wp2_with (go_at_call 147; refine (k _).mono ?_; rintro e w' ⟨rfl, hb⟩)
 go_ret
 exact ⟨rfl, hb⟩
structure Rx (w W : World) : Prop where
 low : Below w.heap.size w W
 rx : Bx W w.heap.size 87 #[.int .i64 0, .string ⟨#[]⟩]
theorem Rx.kept {w W W' : World} (h : Rx w W) (hb : Below W.heap.size W W') : Rx w W' := ⟨h.low.trans (hb.mono h.low.size), h.rx.kept hb⟩
theorem implRdp (s : ByteArray) (w : World) (hs : s.size ≤ 1048576) :
  Calls Tryz.prog 118 #[.string s] w fun e w' => e = .returned (.tuple #[pgV (rdV s).1 (rdV s).2, .bool (rdB s)]) ∧ Below w.heap.size w w' := by
 have hz := aft_size s
 have hC := fun W => cutP s W hs
 have hO := fun k W => implPgo k (aft s) W (by omega)
 have hS := fun k W => implShp k (aft s) W (by omega)
 have hL := fun W => clonP (aft s) W (by omega)
 have HH : Hid (∀ k, pgOk k (aft s) = true → shwP k (aft s) = s → rdB s = true ∧ rdV s = (k, aft s)) := hH_ (fun k h1 h2 => hit_rd h1 h2)
 have HN : Hid ((∀ k : Int, 1 ≤ k → k < 5 → pgOk k (aft s) = true → shwP k (aft s) = s → False) → rdB s = false ∧ rdV s = (0, ⟨#[]⟩)) := hH_ (fun h => no_rd h)
 generalize aft s = t at hC hO hS hL HH HN
 have R0 : Hid (Rx w (w.alloc (.cells #[.int .i64 0, .string ⟨#[]⟩] 87))) := hH_ (⟨(Below.refl _ w).alloc (Nat.le_refl _) _, Bx.new w _ _⟩)
 obtain ⟨V, hV⟩ : ∃ V, rdV s = V := ⟨_, rfl⟩
 obtain ⟨rb, hrb⟩ : ∃ rb, rdB s = rb := ⟨_, rfl⟩
 rw [hV, hrb] at HH HN ⊢
 clear hV hrb hz
 unfold pgV at *
 go_enter Tryz.func118, Tryz.ntmps118
 generalize hwA : w.alloc (.cells #[.int .i64 0, .string ⟨#[]⟩] 87) = wA at R0
 go_wp2_with fail
 refine (hC _).mono ?_
 rintro e w1 ⟨⟨p, b, rfl⟩, hb⟩
 have R1 : Hid (Rx w w1) := (show Rx w w1 from R0.out.kept hb)
 clear hb R0 hwA hC
 go_wp2_with fail
 go_loopw [7] (fun i wr => ∃ m : Nat, m ≤ 4 ∧ i = .int .i64 ((m : Int) + 1) ∧ Hid (Rx w wr) ∧ Hid (∀ k : Int, 1 ≤ k → k < (m : Int) + 1 → pgOk k t = true → shwP k t = s → False)) (fun i _ => 5 - (intOf i).toNat)
 case atStart => exact ⟨0, Nat.zero_le _, rfl, R1, (show ∀ _, _ from fun k h1 h2 => by omega)⟩
 case round =>
  clear R1
  obtain ⟨m, hm, rfl, hR, hno⟩ := hrel
  by_cases hlt : m < 4
  ·
   have hmi : (m : Int) + 1 ≤ 4 := by omega
   have hOm := fun W => hO ((m : Int) + 1) W
   have hSm := fun W => hS ((m : Int) + 1) W
   have HHm : Hid (pgOk ((m : Int) + 1) t = true → shwP ((m : Int) + 1) t = s → rb = true ∧ V = ((m : Int) + 1, t)) := hH_ (HH.out _)
   have HNm : Hid (¬ (pgOk ((m : Int) + 1) t = true ∧ shwP ((m : Int) + 1) t = s) → ∀ k : Int, 1 ≤ k → k < ((m : Int) + 1) + 1 → pgOk k t = true → shwP k t = s → False) := (show _ → _ from fun hn k h1 h2 h3 h4 => by
    by_cases e : k = (m : Int) + 1
    ·
     subst e; exact hn ⟨h3, h4⟩
    ·
     exact hno.out k h1 (by omega) h3 h4)
   have R2 : Hid (Rx w (wr.alloc (.cells #[.int .i64 ((m : Int) + 1), .string t] 87))) := (show Rx w _ from hR.out.kept ((Below.refl _ wr).alloc (Nat.le_refl _) _))
   have X2 : Hid (Bx (wr.alloc (.cells #[.int .i64 ((m : Int) + 1), .string t] 87)) wr.heap.size 87 #[.int .i64 ((m : Int) + 1), .string t]) := hH_ (Bx.new wr _ _)
   obtain ⟨P, hP⟩ : ∃ P, pgOk ((m : Int) + 1) t = P := ⟨_, rfl⟩
   obtain ⟨S, hSS⟩ : ∃ S, shwP ((m : Int) + 1) t = S := ⟨_, rfl⟩
   rw [hP] at hOm
   rw [hSS] at hSm
   rw [hP, hSS] at HHm HNm
   clear hP hSS hO hS hno hR
   go_wp2_with fail
   generalize hwB : wr.alloc (.cells #[.int .i64 ((m : Int) + 1), .string t] 87) = wB at R2 X2 ⊢
   have x0 := X2.out.cell 0
   have x1 := X2.out.cell 1
   refine (hOm _).mono ?_
   rintro e w2 ⟨rfl, hb⟩
   have R3 : Hid (Rx w w2) := (show Rx w _ from R2.out.kept hb)
   have X3 := hH_ (X2.out.kept hb)
   clear hb R2 X2 x0 x1 hwB hOm
   cases P with
   | false =>
    have HA : Hid _ := HNm.out (fun h => by cases h.1)
    go_wp2
    go_roundw
    case rel => exact ⟨m + 1, by omega, by go_num, R3, (show ∀ _, _ from fun k h1 h2 h3 h4 => HA.out k h1 (by omega) h3 h4)⟩
    case measure => simp [intOf]; omega
   | true =>
    have x0 := X3.out.cell 0
    have x1 := X3.out.cell 1
    go_wp2_with fail
    refine (hSm _).mono ?_
    rintro e w3 ⟨rfl, hb⟩
    have R4 : Hid (Rx w w3) := (show Rx w _ from R3.out.kept hb)
    clear hb R3 X3 x0 x1 hSm
    by_cases he : S = s
    ·
     obtain ⟨h1, h2⟩ := HHm.out (by first | exact rfl | trivial) he
     have hcm : (S.toList == s.toList) = true := by rw [same15, decide_eq_true he]
     clear HHm HNm he
     subst h1
     subst h2
     go_wp2_with fail
     refine (hL _).mono ?_
     rintro e w4 ⟨rfl, hb⟩
     have R5 : Hid (Rx w w4) := (show Rx w _ from R4.out.kept hb)
     clear hb R4
     have z0 := R5.out.rx.cell 0
     have z1 := R5.out.rx.cell 1
     have f0 := R5.out.rx.free 0
     have f1 := R5.out.rx.free 1
     have HL := R5.out.low
     go_wp2
     refine bodyPost_ret (v := .tuple #[.agg #[.int .i64 ((m : Int) + 1), .string t], .bool true]) (by simp [results, Tryz.results118, go_sem, z0, z1]) rfl ⟨rfl, (HL.setCell (Nat.le_refl _) _).setCell (Nat.le_refl _) _⟩
    ·
     have hcm : (S.toList == s.toList) = false := by rw [same15, decide_eq_false he]
     have HA : Hid _ := HNm.out (fun h => he h.2)
     clear HHm HNm he
     go_wp2
     go_roundw
     case rel => exact ⟨m + 1, by omega, by go_num, R4, (show ∀ _, _ from fun k h1 h2 h3 h4 => HA.out k h1 (by omega) h3 h4)⟩
     case measure => simp [intOf]; omega
  ·
   obtain rfl : m = 4 := by omega
   obtain ⟨h1, h2⟩ := HN.out (fun k h1 h2 h3 h4 => hno.out k h1 (by omega) h3 h4)
   clear HN HH hO hS hL hno
   subst h1
   subst h2
   have z0 := hR.out.rx.cell 0
   have z1 := hR.out.rx.cell 1
   have f0 := hR.out.rx.free 0
   have f1 := hR.out.rx.free 1
   have HL := hR.out.low
   go_wp2
   refine bodyPost_ret (v := .tuple #[.agg #[.int .i64 0, .string ⟨#[]⟩], .bool false]) (by simp [results, Tryz.results118, go_sem, z0, z1]) rfl ⟨rfl, (HL.setCell (Nat.le_refl _) _).setCell (Nat.le_refl _) _⟩
open Go.RowKit Pg

abbrev PgT := Int × ByteArray
def pgE : Enc PgT where
 k := 2
 pos := by decide
 c := fun x => [.int .i64 x.1, .string x.2]
 len := fun _ => rfl
 one := fun x u hu => by simp at hu; rcases hu with rfl | rfl <;> rfl
theorem Tryz.infoPG : (Tryz.prog.info? 87).map (fun i => (i.zero, i.size, i.bytes)) = some (some (.agg #[.int .i64 0, .string ⟨#[]⟩]), 2, 24) := by kernel_rfl
theorem cellsPu_at (l : List PgT) (j : Nat) (hj : j < l.length) : (cellsE pgE l)[j * 2]? = some (.int .i64 l[j].1) ∧ (cellsE pgE l)[j * 2 + 1]? = some (.string l[j].2) :=
 ⟨cellsE_at pgE l j hj 0 (by decide), cellsE_at pgE l j hj 1 (by decide)⟩
abbrev OwnsPg := OwnsE pgE 87
theorem ownsPu_at {w : World} {B g n cap : Nat} {l : List PgT} (h : OwnsPg w B (.slice (some ⟨g, 0, Option.none⟩) n cap) l) (j : Nat) (hj : j < l.length) : w.cell? ⟨g, j * 2, Option.none⟩ = some (.int .i64 l[j].1) ∧ w.cell? ⟨g, j * 2 + 1, Option.none⟩ = some (.string l[j].2) :=
 ⟨h.at (i := 0) hj rfl, h.at (i := 1) hj rfl⟩
theorem ownsPu_put {w : World} {B g n cap : Nat} {l : List PgT} (hn : n = l.length) (h : OwnsPg w B (.slice (some ⟨g, 0, Option.none⟩) n cap) l) {j : Nat} (hj : j < l.length) (x : PgT) : OwnsPg ((w.setCell ⟨g, j * 2, Option.none⟩ (.int .i64 x.1)).setCell ⟨g, j * 2 + 1, Option.none⟩ (.string x.2)) B (.slice (some ⟨g, 0, Option.none⟩) n cap) (l.set j x) := by
 have h1 := h.put hn hj (i := 0) (by decide) (.int .i64 x.1) (x.1, l[j].2) rfl
 have h2 := h1.put (by rw [List.length_set]; exact hn) (j := j) (by rw [List.length_set]; exact hj) (i := 1) (by decide) (.string x.2) x (by rw [List.getElem_set_self]; rfl)
 rw [List.set_set] at h2
 exact h2
theorem madePu (n : Nat) : (madeCells (Value.cells (.agg #[.int .i64 0, .string ⟨#[]⟩])) (n * 2)).toList = cellsE pgE (List.replicate n ((0, ⟨#[]⟩) : PgT)) := by
 apply List.ext_getElem?
 intro j
 by_cases hj : j < n * 2
 ·
  obtain ⟨c1, c2⟩ := cellsPu_at (List.replicate n ((0, ⟨#[]⟩) : PgT)) (j / 2) (by simp; omega)
  have h2 : j = j / 2 * 2 ∨ j = j / 2 * 2 + 1 := by omega
  rcases h2 with h2 | h2
  ·
   have e : (madeCells (Value.cells (.agg #[.int .i64 0, .string ⟨#[]⟩])) (n * 2)).toList[j]? = some (.int .i64 0) := by
    have h3 : j % 2 = 0 := by omega
    simp [madeCells, hj, Value.cells, h3]
   rw [e]
   rw [h2, c1]; simp
  ·
   have e : (madeCells (Value.cells (.agg #[.int .i64 0, .string ⟨#[]⟩])) (n * 2)).toList[j]? = some (.string ⟨#[]⟩) := by
    have h3 : j % 2 = 1 := by omega
    simp [madeCells, hj, Value.cells, h3]
   rw [e]
   rw [h2, c2]; simp
 ·
  rw [List.getElem?_eq_none (by simp [madeCells]; omega), List.getElem?_eq_none (by rw [cellsE_length]; show _ ≤ j; simp; show n * 2 ≤ j; omega)]
def turnPu (l : List PgT) (k : Nat) : List PgT := l.take k ++ List.replicate (l.length - k) (0, ⟨#[]⟩)
theorem turnPu_length (l : List PgT) (k : Nat) (hk : k ≤ l.length) : (turnPu l k).length = l.length := by unfold turnPu; simp; omega
theorem turnPu_zero (l : List PgT) : turnPu l 0 = List.replicate l.length (0, ⟨#[]⟩) := by simp [turnPu]
theorem turnPu_all (l : List PgT) : turnPu l l.length = l := by simp [turnPu]
theorem turnPu_next (l : List PgT) (k : Nat) (hk : k < l.length) : (turnPu l k).set k l[k] = turnPu l (k + 1) := by
 unfold turnPu
 have e : (l.take k).length = k := by simp; omega
 rw [List.set_append_right _ _ (by omega), e, Nat.sub_self, List.take_succ_eq_append_getElem hk, List.append_assoc]
 congr 1
 rw [show l.length - k = (l.length - (k + 1)) + 1 from by omega, List.replicate_succ, List.set_cons_zero]
 rfl
structure PgsQ (w w' : World) (L : List ByteArray) (u : Value) : Prop where
 form : ∃ ua un uc, u = .slice ua un uc
 own : logB L = true → OwnsPg w' w.heap.size u (L.map rdP)
 low : Below w.heap.size w w'
theorem implPgs (v : Value) (L : List ByteArray) (w : World) (h : Sls txtE w v L) (hs : ∀ x ∈ L, x.size ≤ 1048576) :
  Calls Tryz.prog 142 #[v] w fun e w' => ∃ u, e = .returned (.tuple #[u, .bool (logB L)]) ∧ PgsQ w w' L u := by
 obtain ⟨T, hT⟩ : ∃ T, logB L = T := ⟨_, rfl⟩
 have HTT : Hid (logB L = T) := hT
 rw [hT]
 clear hT
 obtain ⟨a, cap, rfl, h1, h2, h3⟩ := h.txtG
 have HC : Hid (0 < L.length → ∃ g o, a = some ⟨g, o, Option.none⟩ ∧ g < w.heap.size ∧ ∀ j (hj : j < L.length), w.cell? ⟨g, o + j, Option.none⟩ = some (.string L[j])) := h3
 have HS : Hid (∀ x ∈ L, x.size ≤ 1048576) := hs
 have hR := fun s W h => implRdp s W h
 unfold pgV at hR
 unfold maxLen at h2
 have hll : L.length ≤ 9223372036854775807 := by omega
 have H2 : Hid (cap ≤ 9223372036854775807) := (show cap ≤ _ by omega)
 clear h h2 h3 hs
 by_cases hb : 60 < L.length
 ·
  have HE : Hid (T = false) := by show _ = _; rw [← HTT.out]; unfold logB; rw [decide_eq_false (by omega)]; rfl
  have hbi : 60 < (L.length : Int) := by omega
  go_enter Tryz.func142, Tryz.ntmps142
  go_wp2
  go_ret2
  exact ⟨.slice none 0 0, by rw [HE.out]; rfl, ⟨⟨_, _, _, rfl⟩, fun h => by rw [HTT.out, HE.out] at h; exact (Bool.noConfusion h), Below.refl _ _⟩⟩
 ·
  have HT : Hid (logB L = L.all rdB) := by show _ = _; unfold logB; rw [decide_eq_true (by omega)]; rfl
  have hbi : ¬ 60 < (L.length : Int) := by omega
  obtain ⟨i0, hi, hz0, hz1, hz2⟩ := info_parts Tryz.infoPG
  obtain ⟨w0, hrun, hown, hgr⟩ := run_make_full (P := Tryz.prog) w w.heap.size 136 87 i0 (.agg #[.int .i64 0, .string ⟨#[]⟩]) 2 Tryz.underlying136 hi hz0 hz1 .i64 .i64 L.length (by rw [hz2]; omega) (by unfold maxLen; omega) (Nat.le_refl _)
  have hml : (L.map rdP).length = L.length := List.length_map ..
  have hown0 : Hid (OwnsPg w0 w.heap.size (.slice (some ⟨w.heap.size, 0, Option.none⟩) L.length L.length) (turnPu (L.map rdP) 0)) := by
   rw [madePu] at hown
   show w0.ownsRow _ _ 2 _ _ _
   rw [turnPu_length _ 0 (Nat.zero_le _), turnPu_zero, hml]
   exact hown
  have hb0 : Hid (Below w.heap.size w w0) := (show Below _ _ _ from (Below.refl _ w).grown hgr (Nat.le_refl _) (fun j hj => by cases hj))
  clear hown hgr hi hz0 hz1 hz2 hml
  go_enter Tryz.func142, Tryz.ntmps142
  go_wp2
  go_loopw [17] (fun i wr => ∃ j : Nat, j ≤ L.length ∧ i = .int .i64 j ∧ Hid ((L.take j).all rdB = true) ∧ Hid (OwnsPg wr w.heap.size (.slice (some ⟨w.heap.size, 0, Option.none⟩) L.length L.length) (turnPu (L.map rdP) j)) ∧ Hid (Below w.heap.size w wr)) (fun i _ => L.length - (intOf i).toNat)
  case atStart => exact ⟨0, Nat.zero_le _, rfl, (show Hid _ from rfl), hown0, hb0⟩
  case round =>
   clear hown0 hb0 hrun
   obtain ⟨j, hj, rfl, hall, ho, hb0⟩ := hrel
   by_cases hlt : j < L.length
   ·
    obtain ⟨g, o, rfl, hg, hc⟩ := HC.out (by omega)
    have c1 := (hb0.out.cell (p := ⟨g, o + j, none⟩) hg).trans (hc j hlt)
    have hji : (j : Int) < (L.length : Int) := by omega
    have HA := fun (h : rdB L[j] = true) => log_step hlt hall.out h
    have HN := fun (h : rdB L[j] = false) => log_bad hlt h
    have hRj := fun W => hR L[j] W (HS.out _ (List.getElem_mem hlt))
    have HNX : Hid (rdB L[j] = true → (turnPu (L.map rdP) j).set j (rdV L[j]) = turnPu (L.map rdP) (j + 1)) := (show _ → _ from fun h => by
     have := turnPu_next (L.map rdP) j (by rw [List.length_map]; exact hlt)
     rw [List.getElem_map] at this
     rw [← this]
     unfold rdV
     rw [if_pos h])
    have HLN : Hid ((turnPu (L.map rdP) j).length = L.length) := (show _ = _ by rw [turnPu_length _ _ (by rw [List.length_map]; exact hj), List.length_map])
    generalize L[j] = x at c1 HA HN hRj HNX
    generalize rdV x = V at hRj HNX
    obtain ⟨V1, V2⟩ := V
    simp only at hRj
    clear hc hR
    cases hrb : rdB x with
    | false =>
     have HE : Hid (T = false) := by show _ = _; rw [← HTT.out, HT.out, HN hrb]
     rw [hrb] at hRj
     clear HA HN hrb HNX
     go_wp2_with fail
     refine (hRj _).mono ?_
     rintro e w1 ⟨rfl, hb1⟩
     have B1 : Hid (Below w.heap.size w (w1.alloc (.cells #[.int .i64 V1, .string V2] 87))) := hH_ ((hb0.out.trans (hb1.mono hb0.out.size)).alloc (by have := hb0.out.size; have := hb1.size; omega) _)
     clear hb1 hb0 hRj ho
     go_wp2
     go_ret2
     exact ⟨.slice none 0 0, by rw [HE.out]; rfl, ⟨⟨_, _, _, rfl⟩, fun h => by rw [HTT.out, HE.out] at h; exact (Bool.noConfusion h), B1.out⟩⟩
    | true =>
     have HA2 : Hid _ := HA hrb
     have HNX2 : Hid _ := HNX.out hrb
     rw [hrb] at hRj
     clear HA HN hrb HNX
     go_wp2_with fail
     refine (hRj _).mono ?_
     rintro e w1 ⟨rfl, hb1⟩
     have ho1 : Hid (OwnsPg (w1.alloc (.cells #[.int .i64 V1, .string V2] 87)) w.heap.size (.slice (some ⟨w.heap.size, 0, Option.none⟩) L.length L.length) (turnPu (L.map rdP) j)) := (show OwnsPg _ _ _ _ from (ho.out.kept hb1).kept ((Below.refl _ w1).alloc (Nat.le_refl _) _))
     have X1 : Hid (Bx (w1.alloc (.cells #[.int .i64 V1, .string V2] 87)) w1.heap.size 87 #[.int .i64 V1, .string V2]) := hH_ (Bx.new w1 _ _)
     have B1 : Hid (Below w.heap.size w (w1.alloc (.cells #[.int .i64 V1, .string V2] 87))) := hH_ ((hb0.out.trans (hb1.mono hb0.out.size)).alloc (by have := hb0.out.size; have := hb1.size; omega) _)
     generalize hwB : w1.alloc (.cells #[.int .i64 V1, .string V2] 87) = wB at ho1 X1 B1
     have x0 := X1.out.cell 0
     have x1 := X1.out.cell 1
     have hlt2 : j < (turnPu (L.map rdP) j).length := by rw [HLN.out]; exact hlt
     obtain ⟨d1, d2⟩ := ownsPu_at ho1.out j hlt2
     have f1 := ho1.out.free HLN.out.symm (j * 2)
     have f2 := ho1.out.free HLN.out.symm (j * 2 + 1)
     have HP : Hid (OwnsPg ((wB.setCell ⟨w.heap.size, j * 2, none⟩ (.int .i64 V1)).setCell ⟨w.heap.size, j * 2 + 1, none⟩ (.string V2)) w.heap.size (.slice (some ⟨w.heap.size, 0, Option.none⟩) L.length L.length) (turnPu (L.map rdP) (j + 1))) := by
      have := ownsPu_put HLN.out.symm ho1.out hlt2 (V1, V2)
      rw [HNX2.out] at this
      exact this
     generalize ((turnPu (L.map rdP) j)[j]'hlt2) = dd at d1 d2
     clear hb1 hb0 hRj ho HNX2 HLN hlt2 X1 ho1
     go_wp2
     go_roundw
     case rel => exact ⟨j + 1, by omega, by go_num, HA2, HP, (show Hid _ from (B1.out.setCell (Nat.le_refl _) _).setCell (Nat.le_refl _) _)⟩
     case measure => simp [intOf]; omega
   ·
    obtain rfl : j = L.length := by omega
    have HE : Hid (T = true) := by
     have := hall.out
     rw [List.take_length] at this
     show _ = _
     rw [← HTT.out, HT.out, this]
    have HO : Hid (OwnsPg wr w.heap.size (.slice (some ⟨w.heap.size, 0, Option.none⟩) L.length L.length) (L.map rdP)) := by
     have := ho.out
     have e : turnPu (L.map rdP) L.length = L.map rdP := by have := turnPu_all (L.map rdP); rw [List.length_map] at this; exact this
     rw [e] at this
     exact this
    clear ho
    go_wp2
    go_ret2
    exact ⟨.slice (some ⟨w.heap.size, 0, Option.none⟩) L.length L.length, by rw [HE.out]; rfl, ⟨⟨_, _, _, rfl⟩, fun _ => HO.out, hb0.out⟩⟩
theorem implLog (v : Value) (L : List ByteArray) (w : World) (h : Sls txtE w v L) (hs : ∀ x ∈ L, x.size ≤ 1048576) :
  Calls Tryz.prog 113 #[v] w fun e w' => e = .returned (.bool (logB L)) ∧ Below w.heap.size w w' := by
 have j1 := fun W hW => implPgs v L W hW hs
 have HH : Hid (Sls txtE w v L) := h
 obtain ⟨a, cap, rfl, _⟩ := h.txtG
 clear h
 go_enter Tryz.func113, Tryz.ntmps113
 go_wp2_with fail
 refine (j1 _ HH.out).mono ?_
 rintro e w1 ⟨u, rfl, ⟨ua, un, uc, rfl⟩, _, hb⟩
 go_wp2
 go_ret
 exact ⟨rfl, hb⟩
end Go.Proofs.YtdkhdjickkcaiaaGreat
namespace Go.Proofs.YtdkhdjickkcaiaaGreat.Rl
open Go.RowKit Go.Sort Pg

theorem implPrs (p : Int) (w : World) : Calls Tryz.prog 52 #[.int .i64 p] w fun e w' => e = .returned (.bool (decide (pOk p))) ∧ w = w' := by
 by_cases h1 : p = 1
 ·
  subst h1
  have hd : Hid (decide (pOk 1) = true) := hH_ (decide_eq_true (.inl rfl))
  go_enter Tryz.func52, Tryz.ntmps52
  go_wp2
  go_ret
  exact ⟨congrArg (fun b => Ending.returned (.bool b)) hd.out.symm, rfl⟩
 by_cases h3 : p = 3
 ·
  subst h3
  have hd : Hid (decide (pOk 3) = true) := hH_ (decide_eq_true (.inr (.inl rfl)))
  go_enter Tryz.func52, Tryz.ntmps52
  go_wp2
  go_ret
  exact ⟨congrArg (fun b => Ending.returned (.bool b)) hd.out.symm, rfl⟩
 have e1 : (p == 1) = false := by simpa using h1
 have e3 : (p == 3) = false := by simpa using h3
 by_cases h5 : p = 5
 ·
  subst h5
  have hd : Hid (decide (pOk 5) = true) := hH_ (decide_eq_true (.inr (.inr rfl)))
  go_enter Tryz.func52, Tryz.ntmps52
  go_wp2
  go_ret
  exact ⟨congrArg (fun b => Ending.returned (.bool b)) hd.out.symm, rfl⟩
 have e5 : (p == 5) = false := by simpa using h5
 have hd : Hid (decide (pOk p) = false) := hH_ (decide_eq_false (fun h => by rcases h with h | h | h <;> contradiction))
 go_enter Tryz.func52, Tryz.ntmps52
 go_wp2
 go_ret
 exact ⟨congrArg (fun b => Ending.returned (.bool b)) hd.out.symm, rfl⟩
def ipB (s p : Int) : Bool := decide (0 ≤ s ∧ s < p)
theorem implIp (s p : Int) (w : World) : Calls Tryz.prog 53 #[.int .i64 s, .int .i64 p] w fun e w' => e = .returned (.bool (ipB s p)) ∧ w = w' := by
 unfold ipB
 by_cases h1 : 0 ≤ s
 ·
  by_cases h2 : s < p
  ·
   rw [decide_eq_true (p := 0 ≤ s ∧ s < p) ⟨h1, h2⟩]
   go_enter Tryz.func53, Tryz.ntmps53
   go_wp2
   go_ret
   exact ⟨rfl, rfl⟩
  ·
   rw [decide_eq_false (p := 0 ≤ s ∧ s < p) (fun h => h2 h.2)]
   go_enter Tryz.func53, Tryz.ntmps53
   go_wp2
   go_ret
   exact ⟨rfl, rfl⟩
 ·
  rw [decide_eq_false (p := 0 ≤ s ∧ s < p) (fun h => h1 h.1)]
  go_enter Tryz.func53, Tryz.ntmps53
  go_wp2
  go_ret
  exact ⟨rfl, rfl⟩
theorem ipB_yes {s p : Int} (h : ipB s p = true) : 0 ≤ s ∧ s < p := of_decide_eq_true h
theorem ipB_no {s p : Int} (h : ipB s p = false) : ¬ (0 ≤ s ∧ s < p) := of_decide_eq_false h
theorem modE {v p : Int} (hv : 0 ≤ v) : Int.tmod v p = v % p := Int.tmod_eq_emod_of_nonneg hv
theorem implLd (v p : Int) (w : World) (hv : 0 ≤ v ∧ v ≤ 20000) (hp : pOk p) : Calls Tryz.prog 134 #[.int .i64 v, .int .i64 p] w fun e w' => e = .returned (.int .i64 (v % p)) ∧ w = w' := by
 have hp0 : (p == 0) = false := by rcases hp with rfl | rfl | rfl <;> rfl
 have hpz : ¬ p = 0 := by rcases hp with rfl | rfl | rfl <;> decide
 have hb : 0 ≤ v % p ∧ v % p < 20001 := by rcases hp with rfl | rfl | rfl <;> omega
 have em : Int.tmod v p = v % p := modE hv.1
 have ew : wrap64 (v % p) = v % p := by unfold wrap64; omega
 have HR : Hid (Int.tmod v p = v % p) := em
 go_enter Tryz.func134, Tryz.ntmps134
 go_wp2
 go_ret
 first | exact ⟨rfl, rfl⟩ | exact ⟨by simp [em, ew], rfl⟩ | (trace_state; sorry)
theorem implMok (m : Ms) (u : Value) (p : Int) (w : World) (h : Sls txtE w u m.l) (hs : ∀ x ∈ m.l, x.size ≤ 1048576) :
  Calls Tryz.prog 102 #[msA m u, .int .i64 p] w fun e w' => e = .returned (.bool (msB m p)) ∧ Below w.heap.size w w' := by
 have j2 := fun W => implIp m.f p W
 have j3 := fun W => implIp m.t p W
 have j6 := fun W (hW : Below w.heap.size w W) => implLog u m.l W (h.kept hW) hs
 have HF : Hid (∀ b, (¬ MsOk m p) → b = false → Ending.returned (.bool b) = .returned (.bool (msB m p))) := hH_ (fun b h1 h2 => by rw [h2, msB_no h1])
 have HE : Hid (∀ b, (MsOk m p ↔ b = true) → Ending.returned (.bool b) = .returned (.bool (msB m p))) := (show ∀ _, _ from fun b h1 => by
  cases b with
  | true => rw [msB_yes (h1.2 rfl)]
  | false => rw [msB_no (fun hh => by have := h1.1 hh; cases this)])
 obtain ⟨a, cap, hv⟩ := Sls.slen0 h
 have hl60 : Hid (logB m.l = true → m.l.length ≤ 60) := hH_ (fun hh => logB_len hh)
 subst hv
 unfold msA
 have B0 : Hid (Below w.heap.size w (w.alloc (.cells #[.int .i64 m.k, .int .i64 m.f, .int .i64 m.t, .int .i64 m.v, .int .i64 m.la, .slice a m.l.length cap, .int .i64 m.c] 30))) := hH_ ((Below.refl _ w).alloc (Nat.le_refl _) _)
 clear h hs
 go_enter Tryz.func102, Tryz.ntmps102
 by_cases c1 : m.k < 1
 ·
  go_wp2
  go_ret
  exact ⟨HF.out _ (fun h => by have := h.k; omega) rfl, B0.out⟩
 by_cases c2 : 4 < m.k
 ·
  go_wp2
  go_ret
  exact ⟨HF.out _ (fun h => by have := h.k; omega) rfl, B0.out⟩
 go_wp2_with fail
 refine (j2 _).mono ?_
 rintro e w1 ⟨rfl, rfl⟩
 cases b2 : ipB m.f p with
 | false =>
  go_wp2
  go_ret
  exact ⟨HF.out _ (fun h => ipB_no b2 h.f) rfl, B0.out⟩
 | true =>
 go_wp2_with fail
 refine (j3 _).mono ?_
 rintro e w1 ⟨rfl, rfl⟩
 cases b3 : ipB m.t p with
 | false =>
  go_wp2
  go_ret
  exact ⟨HF.out _ (fun h => ipB_no b3 h.t) rfl, B0.out⟩
 | true =>
 by_cases c4 : m.v < 0
 ·
  go_wp2
  go_ret
  exact ⟨HF.out _ (fun h => by have := h.v; omega) rfl, B0.out⟩
 by_cases c5 : 10000 < m.v
 ·
  go_wp2
  go_ret
  exact ⟨HF.out _ (fun h => by have := h.v; omega) rfl, B0.out⟩
 by_cases c6 : m.la < 0
 ·
  go_wp2
  go_ret
  exact ⟨HF.out _ (fun h => by have := h.la; omega) rfl, B0.out⟩
 by_cases c7 : m.v < m.la
 ·
  go_wp2
  go_ret
  exact ⟨HF.out _ (fun h => by have := h.la; omega) rfl, B0.out⟩
 go_wp2_with fail
 refine (j6 _ B0.out).mono ?_
 rintro e w1 ⟨rfl, hb⟩
 have XA : Hid (Bx w1 w.heap.size 30 #[.int .i64 m.k, .int .i64 m.f, .int .i64 m.t, .int .i64 m.v, .int .i64 m.la, .slice a m.l.length cap, .int .i64 m.c]) := hH_ (Bx.kept (Bx.new _ _ _) hb)
 have B1 := hH_ (B0.out.trans (hb.mono B0.out.size))
 clear hb B0
 cases b6 : logB m.l with
 | false =>
  go_wp2
  go_ret
  exact ⟨HF.out _ (fun h => by have := h.l; rw [b6] at this; cases this) rfl, B1.out⟩
 | true =>
 have x0 := XA.out.cell 0
 have x5 := XA.out.cell 5
 have x6 := XA.out.cell 6
 have HA : Hid (m.l.length ≤ 60) := hl60.out b6
 have hll := HA.out
 have OK : Hid (∀ hc, MsOk m p) := (show ∀ _ : (if m.k = 2 then 0 ≤ m.c ∧ m.c ≤ 60 else 0 ≤ m.c ∧ m.c ≤ (m.l.length : Int)), MsOk m p from fun hc => ⟨by omega, ipB_yes b2, ipB_yes b3, by omega, by omega, b6, hc⟩)
 clear j2 j3 j6 b2 b3 b6
 by_cases hk : m.k = 2
 ·
  have HK : Hid (m.k = 2) := hk
  rw [hk] at x0
  clear hk
  by_cases d1 : 0 ≤ m.c
  ·
   by_cases d2 : m.c ≤ 60
   ·
    go_wp2
    go_ret
    exact ⟨HE.out _ ⟨fun h => by first | rfl | exact decide_eq_true d2, fun h => OK.out (by rw [if_pos HK.out]; exact ⟨d1, d2⟩)⟩, B1.out⟩
   ·
    go_wp2
    go_ret
    exact ⟨HF.out _ (fun h => by have := h.c; rw [if_pos HK.out] at this; omega) (by first | rfl | exact decide_eq_false (by omega)), B1.out⟩
  ·
   go_wp2
   go_ret
   exact ⟨HF.out _ (fun h => by have := h.c; rw [if_pos HK.out] at this; omega) (by first | rfl | exact decide_eq_false (by omega)), B1.out⟩
 ·
  have hkb : (m.k == 2) = false := by simpa using hk
  have HK : Hid (¬ m.k = 2) := hk
  by_cases d1 : 0 ≤ m.c
  ·
   by_cases d2 : m.c ≤ (m.l.length : Int)
   ·
    go_wp2
    go_ret
    exact ⟨HE.out _ ⟨fun h => by first | rfl | exact decide_eq_true d2, fun h => OK.out (by rw [if_neg HK.out]; exact ⟨d1, d2⟩)⟩, B1.out⟩
   ·
    go_wp2
    go_ret
    exact ⟨HF.out _ (fun h => by have := h.c; rw [if_neg HK.out] at this; omega) (by first | rfl | exact decide_eq_false (by omega)), B1.out⟩
  ·
   go_wp2
   go_ret
   exact ⟨HF.out _ (fun h => by have := h.c; rw [if_neg HK.out] at this; omega) (by first | rfl | exact decide_eq_false (by omega)), B1.out⟩
open Pg

open Classical in
noncomputable def dB (P : Prop) : Bool := decide P
open Classical in
theorem dB_yes {P : Prop} (h : P) : dB P = true := by unfold dB; exact decide_eq_true h
open Classical in
theorem dB_no {P : Prop} (h : ¬ P) : dB P = false := by unfold dB; exact decide_eq_false h
theorem dB_iff {P : Prop} {b : Bool} (h : P ↔ b = true) : dB P = b := by
 cases b with
 | true => exact dB_yes (h.2 rfl)
 | false => exact dB_no (fun hp => by have := h.1 hp; cases this)
open Classical in
theorem dB_is {P : Prop} (h : dB P = true) : P := by
 unfold dB at h
 exact of_decide_eq_true h
open Classical in
theorem dB_not {P : Prop} (h : dB P = false) : ¬ P := by
 unfold dB at h
 exact of_decide_eq_false h
def VwP (r : Rp) : Prop := 0 ≤ r.v ∧ r.v ≤ 10000 ∧ 0 ≤ r.la ∧ (r.n = true → r.la = r.v) ∧ (r.n = false → r.la < r.v)
def LgP (r : Rp) : Prop := logB r.l = true ∧ 0 ≤ r.c ∧ r.c ≤ (r.l.length : Int)
def OkP (r : Rp) : Prop := (leads r → (r.ok.length : Int) = r.p ∧ r.ok[r.id.toNat]? = some (r.l.length : Int) ∧ ∀ x ∈ r.ok, 0 ≤ x ∧ x ≤ (r.l.length : Int)) ∧ (¬ leads r → r.ok = [])
def ChP (r : Rp) : Prop := (r.n = true → r.ch = []) ∧ (r.n = false → r.id ∈ r.ch ∧ r.ch.Pairwise (· < ·) ∧ ∀ x ∈ r.ch, 0 ≤ x ∧ x < r.p)
def TeP (r : Rp) : Prop := (r.n = true ∨ ¬ mine r → r.te = []) ∧ (r.n = false → mine r → (∀ m ∈ r.te, TeOk m r) ∧ r.te.Pairwise (fun a b => a.f < b.f))
theorem rp_parts (r : Rp) : RpOk r ↔ (r.p = 1 ∨ r.p = 3 ∨ r.p = 5) ∧ (0 ≤ r.id ∧ r.id < r.p) ∧ VwP r ∧ LgP r ∧ OkP r ∧ ChP r ∧ TeP r := by
 constructor
 ·
  intro h
  refine ⟨h.p, h.id, ⟨h.v.1, h.v.2, h.la.1, fun hn => h.n.1 hn, fun hn => ?_⟩, ⟨h.l, h.c⟩, ⟨fun hl => h.ok1 hl.1 hl.2, h.ok0⟩, ⟨fun hn => (h.ch0 hn).1, h.ch1⟩, ⟨fun hn => ?_, fun hn _ => h.te1 hn⟩⟩
  ·
   have h1 := h.la.2
   have h2 : ¬ r.la = r.v := fun e => by have := h.n.2 e; rw [hn] at this; cases this
   omega
  ·
   rcases hn with hn | hn
   ·
    exact (h.ch0 hn).2
   ·
    cases e : r.n with
    | true => exact (h.ch0 e).2
    | false => exact h.te0 e hn
 ·
  rintro ⟨hp, hid, ⟨v1, v2, v3, v4, v5⟩, ⟨l1, l2, l3⟩, ⟨o1, o2⟩, ⟨c1, c2⟩, ⟨t1, t2⟩⟩
  have hla : r.la ≤ r.v := by
   cases e : r.n with
   | true => have := v4 e; omega
   | false => have := v5 e; omega
  refine ⟨hp, hid, ⟨v1, v2⟩, l1, ⟨l2, l3⟩, ⟨v3, hla⟩, ⟨v4, fun e => ?_⟩, fun hn => ⟨c1 hn, t1 (.inl hn)⟩, fun hn hm => o1 ⟨hn, hm⟩, o2, c2, fun hn hm => t1 (.inr hm), fun hn => ?_⟩
  ·
   cases en : r.n with
   | true => rfl
   | false => have := v5 en; omega
  ·
   by_cases hm : mine r
   ·
    exact t2 hn hm
   ·
    rw [t1 (.inr hm)]
    exact ⟨fun m hm => (by cases hm), List.Pairwise.nil⟩
open Go.RowKit Go.Sort Pg

def RpB (w : World) (b : Nat) (r : Rp) (u : Rv) : Prop := Bx w b 28 #[.int .i64 r.id, .int .i64 r.p, .int .i64 r.v, .bool r.n, .int .i64 r.la, u.l, .int .i64 r.c, u.ok, u.ch, u.te]
theorem RpB.kept {w w' : World} {b : Nat} {r : Rp} {u : Rv} (h : RpB w b r u) (hb : Below w.heap.size w w') : RpB w' b r u := Bx.kept h hb
theorem dB_mine {r : Rp} : (decide (r.v % r.p = r.id)) = dB (mine r) := by
 by_cases h : r.v % r.p = r.id
 ·
  rw [decide_eq_true h]; exact (dB_yes (P := mine r) h).symm
 ·
  rw [decide_eq_false h]; exact (dB_no (P := mine r) h).symm
theorem implNx (r : Rp) (u : Rv) (b : Nat) (w : World) (h : RpB w b r u) (hv : 0 ≤ r.v ∧ r.v ≤ 20000) (hp : pOk r.p) :
  Calls Tryz.prog 116 #[.pointer (some ⟨b, 0, none⟩)] w fun e w' => e = .returned (.bool (dB (mine r))) ∧ Below w.heap.size w w' := by
 have j1 : ∀ d os, Calls Tryz.prog 134 #[.int .i64 r.v, .int .i64 r.p] (grow (redrawn w d) os) fun e w'' => e = .returned (.int .i64 (r.v % r.p)) ∧ ∃ p : Regrown, w'' = grow (redrawn w p.d) p.os := fun d os => Calls.regrown_of ((implLd r.v r.p _ hv hp).mono fun e w' ⟨h1, h2⟩ => ⟨h1, h2 ▸ Below.refl _ _⟩)
 have HM : Hid ((r.v % r.p == r.id) = dB (mine r)) := (show _ = _ by rw [← dB_mine]; by_cases hh : r.v % r.p = r.id <;> simp [hh])
 have k0 := cell_regrown (Bx.cell h 0)
 have k1 := cell_regrown (Bx.cell h 1)
 have k2 := cell_regrown (Bx.cell h 2)
 clear h
 generalize r.v % r.p = q at j1 HM
 generalize dB (mine r) = B at HM ⊢
 go_enter Tryz.func116, Tryz.ntmps116
 go_upto_region 1 with fail
 refine wp_region_quiet_below (by kernel_rfl) (by kernel_rfl) ?_
 repeat (go_big_quiet_step (first | (with_reducible exact j1 _ _)))
 refine wpQuiet_nil ?_
 intro _ hw'
 obtain ⟨⟨dq, osq⟩, hw''⟩ := hw'
 subst hw''
 have BN : Hid (Below w.heap.size w (grow (redrawn w dq) osq)) := hH_ (below_regrown w dq osq)
 generalize grow (redrawn w dq) osq = wn at BN ⊢
 go_wp2
 go_ret
 exact ⟨congrArg (fun b => Ending.returned (.bool b)) HM.out, BN.out⟩
theorem implLeads (r : Rp) (u : Rv) (b : Nat) (w : World) (h : RpB w b r u) (hv : 0 ≤ r.v ∧ r.v ≤ 20000) (hp : pOk r.p) :
  Calls Tryz.prog 114 #[.pointer (some ⟨b, 0, none⟩)] w fun e w' => e = .returned (.bool (dB (leads r))) ∧ Below w.heap.size w w' := by
 have j1 := implNx r u b w h hv hp
 have c3 := Bx.cell h 3
 cases hn : r.n with
 | false =>
  have HL : Hid (false = dB (leads r)) := hH_ ((dB_no (fun hl => by have := hl.1; rw [hn] at this; cases this)).symm)
  change w.cell? ⟨b, 3, none⟩ = some (.bool r.n) at c3
  rw [hn] at c3
  clear h j1 hn
  go_enter Tryz.func114, Tryz.ntmps114
  go_wp2
  go_ret
  exact ⟨congrArg (fun b => Ending.returned (.bool b)) HL.out, Below.refl _ _⟩
 | true =>
  have HL : Hid (dB (mine r) = dB (leads r)) := (show _ = _ by
   by_cases hm : mine r
   ·
    rw [dB_yes hm, dB_yes (show leads r from ⟨hn, hm⟩)]
   ·
    rw [dB_no hm, dB_no (fun hl : leads r => hm hl.2)])
  change w.cell? ⟨b, 3, none⟩ = some (.bool r.n) at c3
  rw [hn] at c3
  clear h hn
  go_enter Tryz.func114, Tryz.ntmps114
  go_wp2_with fail
  refine j1.mono ?_
  rintro e w1 ⟨rfl, hb⟩
  go_wp2
  go_ret
  exact ⟨congrArg (fun b => Ending.returned (.bool b)) HL.out, hb⟩
theorem implVw (r : Rp) (u : Rv) (b : Nat) (w : World) (h : RpB w b r u) :
  Calls Tryz.prog 54 #[.pointer (some ⟨b, 0, none⟩)] w fun e w' => e = .returned (.bool (dB (VwP r))) ∧ Below w.heap.size w w' := by
 have c2 := Bx.cell h 2
 have c3 := Bx.cell h 3
 have c4 := Bx.cell h 4
 change w.cell? ⟨b, 2, none⟩ = some (.int .i64 r.v) at c2
 change w.cell? ⟨b, 3, none⟩ = some (.bool r.n) at c3
 change w.cell? ⟨b, 4, none⟩ = some (.int .i64 r.la) at c4
 have HF : Hid (¬ VwP r → ∀ b, b = false → Ending.returned (.bool b) = .returned (.bool (dB (VwP r)))) := hH_ (fun h1 b h2 => by rw [h2, dB_no h1])
 have HE : Hid (∀ b, (VwP r ↔ b = true) → Ending.returned (.bool b) = .returned (.bool (dB (VwP r)))) := hH_ (fun b h1 => by rw [dB_iff h1])
 clear h
 go_enter Tryz.func54, Tryz.ntmps54
 by_cases d1 : r.v < 0
 ·
  go_wp2
  go_ret
  exact ⟨HF.out (fun h => by have := h.1; omega) _ rfl, Below.refl _ _⟩
 by_cases d2 : 10000 < r.v
 ·
  go_wp2
  go_ret
  exact ⟨HF.out (fun h => by have := h.2.1; omega) _ rfl, Below.refl _ _⟩
 by_cases d3 : r.la < 0
 ·
  go_wp2
  go_ret
  exact ⟨HF.out (fun h => by have := h.2.2.1; omega) _ rfl, Below.refl _ _⟩
 cases hn : r.n with
 | true =>
  rw [hn] at c3
  have HV : Hid (VwP r ↔ (r.la == r.v) = true) := hH_ (⟨fun h => by simpa using h.2.2.2.1 hn, fun h => ⟨by omega, by omega, by omega, fun _ => (by simpa using h), fun e => (by rw [hn] at e; cases e)⟩⟩)
  go_upto_region 4 with fail
  go_quiet (fail)
  have BN := hH_ (dwNB w nq)
  generalize w.drewN nq = wn at BN ⊢
  go_wp2
  go_ret
  exact ⟨HE.out _ HV.out, BN.out⟩
 | false =>
  rw [hn] at c3
  have HV : Hid (VwP r ↔ decide (r.la < r.v) = true) := hH_ (⟨fun h => decide_eq_true (h.2.2.2.2 hn), fun h => ⟨by omega, by omega, by omega, fun e => (by rw [hn] at e; cases e), fun _ => of_decide_eq_true h⟩⟩)
  go_upto_region 5 with fail
  go_quiet (fail)
  have BN := hH_ (dwNB w nq)
  generalize w.drewN nq = wn at BN ⊢
  go_wp2
  go_ret
  exact ⟨HE.out _ HV.out, BN.out⟩
theorem implLg (r : Rp) (u : Rv) (b : Nat) (w : World) (h : RpB w b r u) (hl : Sls txtE w u.l r.l) (hs : ∀ x ∈ r.l, x.size ≤ 1048576) (hlen : r.l.length ≤ 1048576) :
  Calls Tryz.prog 55 #[.pointer (some ⟨b, 0, none⟩)] w fun e w' => e = .returned (.bool (dB (LgP r))) ∧ Below w.heap.size w w' := by
 have jl := fun W (hW : Below w.heap.size w W) => implLog u.l r.l W (hl.kept hW) hs
 have HF : Hid (¬ LgP r → ∀ b, b = false → Ending.returned (.bool b) = .returned (.bool (dB (LgP r)))) := hH_ (fun h1 b h2 => by rw [h2, dB_no h1])
 have HT : Hid (LgP r → ∀ b, b = true → Ending.returned (.bool b) = .returned (.bool (dB (LgP r)))) := hH_ (fun h1 b h2 => by rw [h2, dB_yes h1])
 obtain ⟨la, lc, hv⟩ := Sls.slen0 hl
 have h5 : w.cell? ⟨b, 5, none⟩ = some u.l := Bx.cell h 5
 have h6 : w.cell? ⟨b, 6, none⟩ = some (.int .i64 r.c) := Bx.cell h 6
 rw [hv] at jl h5
 have k5 := cell_regrown h5
 have k6 := cell_regrown h6
 clear h h5 h6 hl hs hv
 have end1 : True := trivial
 cases hb : logB r.l with
 | false =>
  have HV : Hid (¬ LgP r) := hH_ (fun h => by have := h.1; rw [hb] at this; cases this)
  rw [hb] at jl
  have j1 : ∀ d os, Calls Tryz.prog 113 #[.slice la r.l.length lc] (grow (redrawn w d) os) fun e w'' => e = .returned (.bool false) ∧ ∃ p : Regrown, w'' = grow (redrawn w p.d) p.os := fun d os => Calls.regrown_of (jl _ (below_regrown w d os))
  clear jl
  go_enter Tryz.func55, Tryz.ntmps55
  go_upto_region 1 with fail
  refine wp_region_quiet_below (by kernel_rfl) (by kernel_rfl) ?_
  repeat (go_big_quiet_step (first | (with_reducible exact j1 _ _)))
  refine wpQuiet_nil ?_
  intro _ hw'
  obtain ⟨⟨dq, osq⟩, hw''⟩ := hw'
  subst hw''
  have BN : Hid (Below w.heap.size w (grow (redrawn w dq) osq)) := hH_ (below_regrown w dq osq)
  generalize grow (redrawn w dq) osq = wn at BN ⊢
  go_wp2
  go_ret
  exact ⟨HF.out HV.out _ rfl, BN.out⟩
 | true =>
  rw [hb] at jl
  have j1 : ∀ d os, Calls Tryz.prog 113 #[.slice la r.l.length lc] (grow (redrawn w d) os) fun e w'' => e = .returned (.bool true) ∧ ∃ p : Regrown, w'' = grow (redrawn w p.d) p.os := fun d os => Calls.regrown_of (jl _ (below_regrown w d os))
  clear jl
  by_cases d1 : 0 ≤ r.c
  ·
   by_cases d2 : r.c ≤ (r.l.length : Int)
   ·
    have HV : Hid (LgP r) := (show LgP r from ⟨hb, d1, d2⟩)
    clear hb
    go_enter Tryz.func55, Tryz.ntmps55
    go_upto_region 1 with fail
    refine wp_region_quiet_below (by kernel_rfl) (by kernel_rfl) ?_
    repeat (go_big_quiet_step (first | (with_reducible exact j1 _ _)))
    refine wpQuiet_nil ?_
    intro _ hw'
    obtain ⟨⟨dq, osq⟩, hw''⟩ := hw'
    subst hw''
    have BN : Hid (Below w.heap.size w (grow (redrawn w dq) osq)) := hH_ (below_regrown w dq osq)
    generalize grow (redrawn w dq) osq = wn at BN ⊢
    go_wp2
    go_ret
    exact ⟨HT.out HV.out _ (by first | rfl | exact decide_eq_true d2), BN.out⟩
   ·
    have HV : Hid (¬ LgP r) := hH_ (fun h => d2 h.2.2)
    clear hb
    go_enter Tryz.func55, Tryz.ntmps55
    go_upto_region 1 with fail
    refine wp_region_quiet_below (by kernel_rfl) (by kernel_rfl) ?_
    repeat (go_big_quiet_step (first | (with_reducible exact j1 _ _)))
    refine wpQuiet_nil ?_
    intro _ hw'
    obtain ⟨⟨dq, osq⟩, hw''⟩ := hw'
    subst hw''
    have BN : Hid (Below w.heap.size w (grow (redrawn w dq) osq)) := hH_ (below_regrown w dq osq)
    generalize grow (redrawn w dq) osq = wn at BN ⊢
    go_wp2
    go_ret
    exact ⟨HF.out HV.out _ (by first | rfl | exact decide_eq_false (by omega)), BN.out⟩
  ·
   have HV : Hid (¬ LgP r) := hH_ (fun h => d1 h.2.1)
   clear hb
   go_enter Tryz.func55, Tryz.ntmps55
   go_upto_region 1 with fail
   refine wp_region_quiet_below (by kernel_rfl) (by kernel_rfl) ?_
   repeat (go_big_quiet_step (first | (with_reducible exact j1 _ _)))
   refine wpQuiet_nil ?_
   intro _ hw'
   obtain ⟨⟨dq, osq⟩, hw''⟩ := hw'
   subst hw''
   have BN : Hid (Below w.heap.size w (grow (redrawn w dq) osq)) := hH_ (below_regrown w dq osq)
   generalize grow (redrawn w dq) osq = wn at BN ⊢
   go_wp2
   go_ret
   exact ⟨HF.out HV.out _ rfl, BN.out⟩
end Go.Proofs.YtdkhdjickkcaiaaGreat.Rl

/-
  The laws' own marks: texts of numbers.
  Texts in rows: the laws' helpers on them: measured, turned, compared, marked, held.
-/
import Derived.Test.YtdkhdjickkcaiaaRN03
import Derived.Deep.QuietTactic
import Derived.BigQuiet
import Derived.Deep.RegionWith
import Derived.Laws.IdiomStrings
import Derived.Lib.QuietBelow
import Derived.Laws.RangeAny
import Derived.Below
import Derived.Test.YtdkhdjickkcaiaaRN02
import Derived.WalkKit
import Derived.WalkSpells
import Derived.Lib.AppendStr
import Derived.SliceStrings
import Derived.Laws.OwnMore
namespace Go.Proofs.Ytdkhdjickkcaiaa
open Go.RowKit

theorem extB {a b : ByteArray} (h : a.data.toList = b.data.toList) : a = b := ByteArray.ext (Array.ext' h)
/-- The decimal digit. -/
def decB (d : Nat) : UInt8 := UInt8.ofNat (48 + d)
/-- The decimal digits of n, none of 0. -/
def decF : Nat → Nat → List UInt8
  | 0, _ => []
  | f + 1, n => if n = 0 then [] else decF f (n / 10) ++ [decB (n % 10)]
theorem decF_zero (f : Nat) : decF f 0 = [] := by cases f <;> simp [decF]
theorem decF_step (f n : Nat) (h : 0 < n) : decF (f + 1) n = decF f (n / 10) ++ [decB (n % 10)] := by simp [decF]; omega
/-- The mark of number n. -/
def mkT (n : Nat) : ByteArray := ⟨(109 :: decF 20 n).toArray⟩
theorem dec_more {n m f : Nat} {x : ByteArray} (hm : m < 10 ^ f) (h0 : 0 < m) (h : decF 20 n = decF f m ++ x.data.toList) : ∃ f', m / 10 < 10 ^ f' ∧ decF 20 n = decF f' (m / 10) ++ (decB (m % 10) :: x.data.toList) := by
  cases f with
  | zero => simp at hm; omega
  | succ f =>
    refine ⟨f, ?_, ?_⟩
    · rw [Nat.pow_succ] at hm
      exact Nat.div_lt_of_lt_mul (by rw [Nat.mul_comm]; exact hm)
    · rw [h, decF_step f m h0]
      simp
theorem dec_byte (m : Nat) : (48 + (m : Int) % 10) = ((decB (m % 10)).toNat : Int) := by
  have h : (decB (m % 10)).toNat = 48 + m % 10 := by
    unfold decB
    rw [UInt8.toNat_ofNat']
    exact Nat.mod_eq_of_lt (by omega)
  rw [h]
  omega
theorem byte_text (w : World) (n : Int) (c : UInt8) (h : n = (c.toNat : Int)) : (convert 107 9 (.slice (some ⟨w.heap.size, 0, none⟩) 1 1)).run Try.prog (w.alloc (.cells #[.int .u8 n] 5)) = .ok (.string ⟨#[c]⟩) (w.alloc (.cells #[.int .u8 n] 5)) := by
  subst h
  refine run_convert_bytes_back (P := Try.prog) _ 107 9 5 ⟨w.heap.size, 0, none⟩ 1 [c] Try.underlying107 Try.underlying5 Try.underlying9 (fun q hq => ?_)
  have e : q = 0 := by simp at hq; exact hq
  subst e
  show (w.alloc (.cells #[.int .u8 (c.toNat : Int)] 5)).cell? ⟨w.heap.size, 0, none⟩ = _
  rw [World.cell?_alloc_mark]
  rfl
theorem cat_cons (c : UInt8) (x : ByteArray) : ((⟨#[c]⟩ : ByteArray) ++ x).data.toList = c :: x.data.toList := by
  rw [ByteArray.data_append, Array.toList_append]; rfl
theorem size_cat (c : UInt8) (x : ByteArray) : ((⟨#[c]⟩ : ByteArray) ++ x).size = x.size + 1 := by
  rw [ByteArray.size_append]
  show 1 + x.size = x.size + 1
  omega
theorem mkT_is {n : Nat} {x : ByteArray} (h : decF 20 n = x.data.toList) : (⟨#[109]⟩ : ByteArray) ++ x = mkT n := by
  apply extB
  rw [cat_cons, ← h]
  rfl
theorem ret_text {a b : ByteArray} (h : a = b) : Ending.returned (.string a) = .returned (.string b) := by rw [h]

set_option maxHeartbeats 400000 in
theorem markText (n : Nat) (h1 : 1 ≤ n) (h2 : n ≤ 100000000) (w : World) :
    Calls Try.prog 70 #[.int .i64 n] w fun e w' => e = .returned (.string (mkT n)) ∧ Below w.heap.size w w' := by
  have hbound : n < 10 ^ 20 := by omega
  have HB : Hid (n < 10 ^ 20) := hbound
  clear hbound
  go_enter Try.func70, Try.ntmps70
  go_wp2
  go_loopw [0, 3] (fun a b wr => ∃ (m f : Nat) (x : ByteArray), a = .int .i64 m ∧ b = .string x ∧ m ≤ 100000000 ∧ x.size + m ≤ 100000000 ∧ Below w.heap.size w wr ∧ Hid (m < 10 ^ f) ∧ Hid (decF 20 n = decF f m ++ x.data.toList)) (fun a _ _ => (intOf a).toNat)
  case atStart => exact ⟨n, 20, ⟨#[]⟩, rfl, rfl, h2, by show 0 + n ≤ _; omega, Below.refl _ _, HB, by show decF 20 n = decF 20 n ++ []; rw [List.append_nil]⟩
  case round =>
    obtain ⟨m, f, x, rfl, rfl, hm, hxm, hb, hmf, hx⟩ := hrel
    by_cases h0 : 0 < m
    · obtain ⟨f', g1, g2⟩ := dec_more hmf.out h0 hx.out
      have HM : Hid (m / 10 < 10 ^ f') := g1
      have HX : Hid (decF 20 n = decF f' (m / 10) ++ (decB (m % 10) :: x.data.toList)) := g2
      clear g1 g2
      have hback := byte_text wr (48 + (m : Int) % 10) (decB (m % 10)) (dec_byte m)
      have hbs := hb.size
      go_wp2
      go_roundw
      case rel => exact ⟨m / 10, f', _, by go_num, rfl, by omega, by rw [size_cat]; omega, hb.alloc hbs _, HM, by rw [cat_cons]; exact HX⟩
      case measure => simp [intOf]; omega
    · obtain rfl : m = 0 := by omega
      have HX : Hid (decF 20 n = x.data.toList) := by
        show decF 20 n = x.data.toList
        rw [hx.out, decF_zero]; rfl
      go_wp2
      go_ret
      exact ⟨ret_text (mkT_is HX.out), hb⟩

end Go.Proofs.Ytdkhdjickkcaiaa
namespace Go.Proofs.Ytdkhdjickkcaiaa
open Go.RowKit Go.Sort
set_option linter.unusedVariables false
set_option linter.unusedSimpArgs false

abbrev HasX := HasE txtE 9
theorem cellsX_at (l : List ByteArray) (j : Nat) (hj : j < l.length) : (cellsE txtE l)[j]? = some (.string l[j]) := by
  have := cellsE_at txtE l j hj 0 (by decide)
  rw [show j * txtE.k + 0 = j from by show j * 1 + 0 = j; omega] at this
  exact this
theorem Sls.txt {w : World} {v : Value} {l : List ByteArray} (h : Sls txtE w v l) : ∃ a cap, v = .slice a l.length cap ∧ l.length ≤ cap ∧ cap ≤ maxLen ∧ (0 < l.length → ∃ g o, a = some ⟨g, o, Option.none⟩ ∧ g < w.heap.size ∧
    ∀ j (hj : j < l.length), w.cell? ⟨g, o + j, Option.none⟩ = some (.string l[j])) := by
  obtain ⟨a, cap, rfl, h1, h2, h3⟩ := h
  refine ⟨a, cap, rfl, h1, h2, fun h0 => ?_⟩
  obtain ⟨g, o, rfl, hg, hc⟩ := h3 h0
  exact ⟨g, o, rfl, hg, fun j hj => hc j _ (cellsX_at l j hj)⟩
theorem hasX_at {w : World} {B g n cap : Nat} {l : List ByteArray} (h : HasX w B (.slice (some ⟨g, 0, Option.none⟩) n cap) l) (j : Nat) (hj : j < l.length) : w.cell? ⟨g, j, Option.none⟩ = some (.string l[j]) := by
  have := h.at (i := 0) hj (u := .string l[j]) rfl
  rw [show j * txtE.k + 0 = j from by show j * 1 + 0 = j; omega] at this
  exact this
theorem hasX_put {w : World} {B g n cap : Nat} {l : List ByteArray} (h : HasX w B (.slice (some ⟨g, 0, Option.none⟩) n cap) l) {j : Nat} (hj : j < l.length) (x : ByteArray) : HasX (w.setCell ⟨g, j, Option.none⟩ (.string x)) B (.slice (some ⟨g, 0, Option.none⟩) n cap) (l.set j x) := by
  have := h.put hj (i := 0) (by decide) (.string x) x rfl
  rw [show j * txtE.k + 0 = j from by show j * 1 + 0 = j; omega] at this
  exact this
set_option maxHeartbeats 400000 in
theorem eqTxt (va vb : Value) (l : List ByteArray) (w : World) (ha : Sls txtE w va l) (hb : Sls txtE w vb l) (hl : l.length ≤ 1048576) :
    Calls Try.prog 42 #[va, vb] w fun e w' => e = .returned (.bool true) ∧ Grew w w' := by
  obtain ⟨a, ca, rfl, a1, a2, a3⟩ := ha.txt
  obtain ⟨b, cb, rfl, b1, b2, b3⟩ := hb.txt
  clear ha hb
  have hmx := mixed
  go_enter Try.func42, Try.ntmps42
  go_wp2
  go_loopw [5] (fun i wr => ∃ (k : Nat), k ≤ l.length ∧ i = .int .i64 k ∧ Grew w wr) (fun i _ => l.length - (intOf i).toNat)
  case atStart => exact ⟨0, Nat.zero_le _, rfl, Grew.refl _⟩
  case round =>
    obtain ⟨k, hk, rfl, hg⟩ := hrel
    by_cases hlt : k < l.length
    · obtain ⟨ga, oa, rfl, hga, hca⟩ := a3 (by omega)
      obtain ⟨gb, ob, rfl, hgb, hcb⟩ := b3 (by omega)
      have c1 := hg.cell (hca k hlt) hga
      have c3 := hg.cell (hcb k hlt) hgb
      generalize l[k] = f at c1 c3
      clear a3 b3 hca hcb
      go_wp2
      go_quiet (fail)
      have hg2 : Grew w (wr.drewN nq) := hg.drewN _
      generalize wr.drewN nq = w1 at hg2 ⊢
      go_wp2
      go_roundw
      case rel => exact ⟨k + 1, by omega, by go_num, hg2⟩
      case measure => simp [intOf]; omega
    · go_wp2
      go_ret
      exact ⟨rfl, hg⟩
def markedX (s : Nat) (l : List ByteArray) (k : Nat) : List ByteArray := (List.range k).map (fun j => mkT (s + j)) ++ l.drop k
def marksX (s n : Nat) : List ByteArray := (List.range n).map (fun j => mkT (s + j))
theorem markedX_length (s : Nat) (l : List ByteArray) (k : Nat) (h : k ≤ l.length) : (markedX s l k).length = l.length := by unfold markedX; simp; omega
theorem markedX_zero (s : Nat) (l : List ByteArray) : markedX s l 0 = l := by simp [markedX]
theorem markedX_all (s : Nat) (l : List ByteArray) : markedX s l l.length = marksX s l.length := by simp [markedX, marksX]
theorem markedX_next (s : Nat) (l : List ByteArray) (k : Nat) (h : k < l.length) : (markedX s l k).set k (mkT (s + k)) = markedX s l (k + 1) := by
  unfold markedX
  have e : ((List.range k).map (fun j => mkT (s + j))).length = k := by simp
  rw [List.set_append_right _ _ (by omega), e, Nat.sub_self, List.range_succ, List.map_append, List.append_assoc]
  congr 1
  rw [List.drop_eq_getElem_cons h, List.set_cons_zero]
  rfl
theorem marksX_length (s n : Nat) : (marksX s n).length = n := by simp [marksX]
theorem marksX_at (s n j : Nat) (h : j < (marksX s n).length) : (marksX s n)[j] = mkT (s + j) := by simp [marksX]
set_option maxHeartbeats 1000000 in
theorem markTxt (s : Nat) (hs1 : 1 ≤ s) (hs2 : s ≤ 50000000) (v : Value) (l : List ByteArray) (B : Nat) (w : World) (h : HasX w B v l) (hl : l.length ≤ 1048576) :
    Calls Try.prog 45 #[v, .int .i64 (s : Int)] w fun e w' => e = .returned (.int .i64 ((s : Int) + (l.length : Int))) ∧ HasX w' B v (marksX s l.length) ∧ w.grownBy w' v.ownBlock := by
  have hh := h
  obtain ⟨a, cap, rfl, h1, h2, h3⟩ := hh.form
  unfold maxLen at h2
  go_enter Try.func45, Try.ntmps45
  go_wp2
  go_loopw [1, 5] (fun m i wr => ∃ k : Nat, k ≤ l.length ∧ i = .int .i64 k ∧ m = .int .i64 ((s : Int) + (k : Int)) ∧ HasX wr B (.slice a l.length cap) (markedX s l k) ∧ w.grownBy wr (Value.slice a l.length cap).ownBlock) (fun _ i _ => l.length - (intOf i).toNat)
  case atStart => exact ⟨0, Nat.zero_le _, rfl, by simp, by rw [markedX_zero]; exact h, grownE_self _ _⟩
  case round =>
    clear h hh
    obtain ⟨k, hk, rfl, rfl, ho, hgr⟩ := hrel
    by_cases hlt : k < l.length
    · obtain ⟨g, rfl⟩ := h3 (by omega)
      have hml := markedX_length s l k hk
      have hnx := markedX_next s l k hlt
      generalize hl2 : markedX s l (k + 1) = l2 at hnx
      generalize markedX s l k = l1 at ho hml hnx
      have m1 := fun wx => markText (s + k) (by omega) (by omega) wx
      simp only [Int.natCast_add] at m1
      have hki : (k : Int) < (l.length : Int) := by omega
      clear h3
      go_wp2_with fail
      refine (m1 _).mono ?_
      rintro e w1 ⟨rfl, hb1⟩
      have ho1 := ho.kept hb1
      have d1 := hasX_at ho1 k (by omega)
      have f1 := ho1.free k
      have hg1 := grownE_below hgr hb1
      have ho2 := hasX_put ho1 (j := k) (by omega) (mkT (s + k))
      have hg2 := grownE_put hg1 k (.string (mkT (s + k)))
      rw [hnx] at ho2
      have HO : Hid (HasX (w1.setCell ⟨g, k, none⟩ (.string (mkT (s + k)))) B (.slice (some ⟨g, 0, none⟩) l.length cap) l2) := ho2
      have HG : Hid _ := hg2
      clear ho hgr hb1 ho1 hg1 ho2 hg2
      go_wp2
      go_roundw
      case rel => exact ⟨k + 1, by omega, by go_num, by go_num, by rw [hl2]; exact HO.out, HG.out⟩
      case measure => simp [intOf]; omega
    · obtain rfl : k = l.length := by omega
      rw [markedX_all] at ho
      go_wp2
      go_ret
      exact ⟨rfl, ho, hgr⟩
set_option maxHeartbeats 1000000 in
theorem heldTxt (s : Nat) (hs1 : 1 ≤ s) (hs2 : s ≤ 50000000) (v : Value) (n : Nat) (w : World) (h : Sls txtE w v (marksX s n)) (hl : n ≤ 1048576) :
    Calls Try.prog 48 #[v, .int .i64 (s : Int)] w fun e w' => e = .returned (.int .i64 ((s : Int) + (n : Int))) ∧ Below w.heap.size w w' := by
  have hml := marksX_length s n
  obtain ⟨a, cap, rfl, h1, h2, h3⟩ := h.txt
  unfold maxLen at h2
  rw [hml] at h1 ⊢
  have hat : Hid (∀ (j : Nat) (hj : j < n) W, Below w.heap.size w W → ∃ g o, a = some ⟨g, o, Option.none⟩ ∧ W.cell? ⟨g, o + j, Option.none⟩ = some (.string (mkT (s + j)))) := (show ∀ _, _ from fun j hj W hW => by
    obtain ⟨g, o, ha, hg, hc⟩ := h3 (by omega)
    have c1 := hc j (by omega)
    rw [marksX_at] at c1
    exact ⟨g, o, ha, (hW.cell (p := ⟨g, o + j, none⟩) hg).trans c1⟩)
  clear h h3 hml
  go_enter Try.func48, Try.ntmps48
  go_wp2
  go_loopw [1, 5] (fun m i wr => ∃ k : Nat, k ≤ n ∧ i = .int .i64 k ∧ m = .int .i64 ((s : Int) + (k : Int)) ∧ Hid (Below w.heap.size w wr)) (fun _ i _ => n - (intOf i).toNat)
  case atStart => exact ⟨0, Nat.zero_le _, rfl, by simp, (show Hid _ from Below.refl _ _)⟩
  case round =>
    obtain ⟨k, hk, rfl, rfl, hb⟩ := hrel
    by_cases hlt : k < n
    · obtain ⟨g, o, rfl, c1⟩ := hat.out k hlt wr hb.out
      have m1 := fun wx => markText (s + k) (by omega) (by omega) wx
      simp only [Int.natCast_add] at m1
      have hki : (k : Int) < (n : Int) := by omega
      have j1 : ∀ d os, Calls Try.prog 70 #[.int .i64 ((s : Int) + (k : Int))] (grow (redrawn wr d) os) fun e w'' => e = .returned (.string (mkT (s + k))) ∧ ∃ p : Regrown, w'' = grow (redrawn wr p.d) p.os := fun d os => Calls.regrown_of (m1 _)
      have k1 := cell_regrown c1
      generalize mkT (s + k) = T at j1 k1
      have eT : (T.toList == T.toList) = true := by simp
      clear c1 m1
      go_wp2_with fail
      refine wp_region_quiet_below (by kernel_rfl) (by kernel_rfl) ?_
      repeat (go_big_quiet_step (with_reducible exact j1 _ _))
      refine wpQuiet_nil ?_
      intro _ hw'
      obtain ⟨⟨dq, osq⟩, hw''⟩ := hw'
      subst hw''
      have hbn : Below wr.heap.size wr (grow (redrawn wr dq) osq) := below_regrown wr dq osq
      have BN : Hid (Below w.heap.size w (grow (redrawn wr dq) osq)) := (show Hid _ from hb.out.trans (hbn.mono hb.out.size))
      generalize grow (redrawn wr dq) osq = wn at BN hbn ⊢
      clear k1 j1 hbn
      go_wp2
      go_roundw
      case rel => exact ⟨k + 1, by omega, by go_num, by go_num, BN⟩
      case measure => simp [intOf]; omega
    · obtain rfl : k = n := by omega
      go_wp2
      go_ret
      exact ⟨rfl, hb.out⟩
end Go.Proofs.Ytdkhdjickkcaiaa

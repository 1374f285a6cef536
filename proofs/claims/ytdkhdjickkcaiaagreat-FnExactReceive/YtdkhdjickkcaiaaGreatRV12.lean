/-
  Rows of numbers in memory, and the laws' own helpers on them.
  Rows of any elements: appended, and where the new row lies.
  The specification's Recent and Misses.
  The laws' own marks: texts of numbers.
  Slices of texts that came in or that a call made: how they are read; the laws' own helpers for them.
  Texts in rows: the laws' helpers on them: measured, turned, compared, marked, held.
-/
import Derived.Test.YtdkhdjickkcaiaaGreatRVS
import Derived.Test.YtdkhdjickkcaiaaGreatRV09
import Derived.Test.YtdkhdjickkcaiaaGreatRV11
import Derived.Laws.OwnMore
import Derived.Maps.AppendAt
import Derived.Deep.QuietTactic
import Derived.BigQuiet
import Derived.Deep.RegionWith
import Derived.Laws.IdiomStrings
import Derived.Test.YtdkhdjickkcaiaaGreatRV08
import Derived.Test.YtdkhdjickkcaiaaGreatRV06
import Derived.WalkKit
import Derived.WalkSpells
import Derived.Lib.AppendStr
import Derived.SliceStrings
import Derived.Lib.QuietBelow
set_option linter.unusedVariables false
set_option linter.unusedSimpArgs false
set_option maxRecDepth 100000
set_option maxHeartbeats 64000000
namespace Go.Proofs.YtdkhdjickkcaiaaGreat
open Go.RowKit Go.Sort

def intE : Enc Int where
 k := 1
 pos := by decide
 c := fun x => [.int .i64 x]
 len := fun _ => rfl
 one := fun x u hu => by simp at hu; subst hu; rfl
theorem Tryz.infoN2 : (Tryz.prog.info? 2).map (fun i => (i.zero, i.size, i.bytes)) = some (some (.int .i64 0), 1, 8) := by kernel_rfl
theorem cellsN_at (l : List Int) (j : Nat) (hj : j < l.length) : (cellsE intE l)[j]? = some (.int .i64 l[j]) := by
 have := cellsE_at intE l j hj 0 (by decide)
 rw [show j * intE.k + 0 = j from by show j * 1 + 0 = j; omega] at this
 exact this
theorem Sls.one {w : World} {v : Value} {l : List Int} (h : Sls intE w v l) : ∃ a cap, v = .slice a l.length cap ∧ l.length ≤ cap ∧ cap ≤ maxLen ∧ (0 < l.length → ∃ g o, a = some ⟨g, o, Option.none⟩ ∧ g < w.heap.size ∧
  ∀ j (hj : j < l.length), w.cell? ⟨g, o + j, Option.none⟩ = some (.int .i64 l[j])) := by
 obtain ⟨a, cap, rfl, h1, h2, h3⟩ := h
 refine ⟨a, cap, rfl, h1, h2, fun h0 => ?_⟩
 obtain ⟨g, o, rfl, hg, hc⟩ := h3 h0
 exact ⟨g, o, rfl, hg, fun j hj => hc j _ (cellsN_at l j hj)⟩
abbrev OwnsN := OwnsE intE 2
abbrev HasN := HasE intE 2
theorem ownsN_at {w : World} {B g n cap : Nat} {l : List Int} (h : OwnsN w B (.slice (some ⟨g, 0, Option.none⟩) n cap) l) (j : Nat) (hj : j < l.length) : w.cell? ⟨g, j, Option.none⟩ = some (.int .i64 l[j]) := by
 have := h.at (i := 0) hj (u := .int .i64 l[j]) rfl
 rw [show j * intE.k + 0 = j from by show j * 1 + 0 = j; omega] at this
 exact this
theorem hasN_at {w : World} {B g n cap : Nat} {l : List Int} (h : HasN w B (.slice (some ⟨g, 0, Option.none⟩) n cap) l) (j : Nat) (hj : j < l.length) : w.cell? ⟨g, j, Option.none⟩ = some (.int .i64 l[j]) := by
 have := h.at (i := 0) hj (u := .int .i64 l[j]) rfl
 rw [show j * intE.k + 0 = j from by show j * 1 + 0 = j; omega] at this
 exact this
theorem ownsN_put {w : World} {B g n cap : Nat} {l : List Int} (hn : n = l.length) (h : OwnsN w B (.slice (some ⟨g, 0, Option.none⟩) n cap) l) {j : Nat} (hj : j < l.length) (x : Int) : OwnsN (w.setCell ⟨g, j, Option.none⟩ (.int .i64 x)) B (.slice (some ⟨g, 0, Option.none⟩) n cap) (l.set j x) := by
 have := h.put hn hj (i := 0) (by decide) (.int .i64 x) x rfl
 rw [show j * intE.k + 0 = j from by show j * 1 + 0 = j; omega] at this
 exact this
theorem hasN_put {w : World} {B g n cap : Nat} {l : List Int} (h : HasN w B (.slice (some ⟨g, 0, Option.none⟩) n cap) l) {j : Nat} (hj : j < l.length) (x : Int) : HasN (w.setCell ⟨g, j, Option.none⟩ (.int .i64 x)) B (.slice (some ⟨g, 0, Option.none⟩) n cap) (l.set j x) := by
 have := h.put hj (i := 0) (by decide) (.int .i64 x) x rfl
 rw [show j * intE.k + 0 = j from by show j * 1 + 0 = j; omega] at this
 exact this

/-! ### The laws' helpers -/
theorem madeN (n : Nat) : (madeCells (Value.cells (.int .i64 0)) (n * 1)).toList = cellsE intE (List.replicate n 0) := by
 rw [Nat.mul_one]
 apply List.ext_getElem?
 intro j
 by_cases hj : j < n
 ·
  have e : (madeCells (Value.cells (.int .i64 0)) n).toList[j]? = some (.int .i64 0) := by simp [madeCells, hj, Value.cells, Nat.mod_one]
  rw [e, cellsN_at (List.replicate n 0) j (by simpa using hj)]
  simp
 ·
  rw [List.getElem?_eq_none (by simp [madeCells]; omega), List.getElem?_eq_none (by rw [cellsE_length]; simp; show n * 1 ≤ j; omega)]
def turnN (l : List Int) (k : Nat) : List Int := l.take k ++ List.replicate (l.length - k) 0
theorem turnN_length (l : List Int) (k : Nat) (hk : k ≤ l.length) : (turnN l k).length = l.length := by unfold turnN; simp; omega
theorem turnN_zero (l : List Int) : turnN l 0 = List.replicate l.length 0 := by simp [turnN]
theorem turnN_all (l : List Int) : turnN l l.length = l := by simp [turnN]
theorem turnN_next (l : List Int) (k : Nat) (hk : k < l.length) : (turnN l k).set k l[k] = turnN l (k + 1) := by
 unfold turnN
 have e : (l.take k).length = k := by simp; omega
 rw [List.set_append_right _ _ (by omega), e, Nat.sub_self, List.take_succ_eq_append_getElem hk, List.append_assoc]
 congr 1
 rw [show l.length - k = (l.length - (k + 1)) + 1 from by omega, List.replicate_succ, List.set_cons_zero]
 rfl
theorem toNum (v : Value) (l : List Int) (w : World) (h : Sls intE w v l) (hl : l.length ≤ 1048576) :
  Calls Tryz.prog 84 #[v] w fun e w' => ∃ u, e = .returned u ∧ OwnsN w' w.heap.size u l ∧ Below w.heap.size w w' := by
 obtain ⟨a, cap, rfl, h1, h2, h3⟩ := h.one
 clear h
 unfold maxLen at h2
 obtain ⟨i0, hi, hz0, hz1, hz2⟩ := info_parts Tryz.infoN2
 obtain ⟨w0, hrun, hown, hgr⟩ := run_make_full (P := Tryz.prog) w w.heap.size 25 2 i0 (.int .i64 0) 1 Tryz.underlying25 hi hz0 hz1 .i64 .i64 l.length (by rw [hz2]; omega) (by unfold maxLen; omega) (Nat.le_refl _)
 rw [madeN, ← turnN_zero] at hown
 have hown0 : OwnsN w0 w.heap.size (.slice (some ⟨w.heap.size, 0, Option.none⟩) l.length l.length) (turnN l 0) := by
  show w0.ownsRow _ _ 1 _ _ _
  rw [turnN_length l 0 (Nat.zero_le _)]
  exact hown
 have hb0 : Below w.heap.size w w0 := (Below.refl _ w).grown hgr (Nat.le_refl _) (fun j hj => by cases hj)
 have hs0 : w.heap.size < w0.heap.size := hown0.under _ rfl
 clear hown hgr hi hz0 hz1 hz2
 go_enter Tryz.func84, Tryz.ntmps84
 go_wp2
 go_loopw [4] (fun i wr => ∃ k : Nat, k ≤ l.length ∧ i = .int .i64 k ∧ OwnsN wr w.heap.size (.slice (some ⟨w.heap.size, 0, Option.none⟩) l.length l.length) (turnN l k) ∧ Below w.heap.size w wr) (fun i _ => l.length - (intOf i).toNat)
 case atStart => exact ⟨0, Nat.zero_le _, rfl, hown0, hb0⟩
 case round =>
  clear hown0 hb0 hs0 hrun
  obtain ⟨k, hk, rfl, ho, hb⟩ := hrel
  by_cases hlt : k < l.length
  ·
   obtain ⟨g, o, rfl, hg, hc⟩ := h3 (by omega)
   have c1 := (hb.cell (p := ⟨g, o + k, Option.none⟩) hg).trans (hc k hlt)
   have hnx := turnN_next l k hlt
   have hln := turnN_length l k hk
   generalize l[k] = f at c1 hnx
   generalize hl2 : turnN l (k + 1) = l2 at hnx
   generalize turnN l k = l1 at ho hnx hln
   have f1 := ho.free hln.symm k
   have d1 := ownsN_at ho k (by omega)
   have hp := ownsN_put hln.symm ho (j := k) (by omega) f
   rw [hnx] at hp
   have HP : Hid _ := hp
   have HB : Hid (Below w.heap.size w (wr.setCell ⟨w.heap.size, k, Option.none⟩ (.int .i64 f))) := hb.setCell (Nat.le_refl _) _
   clear hc h3 hp ho
   go_wp2
   go_roundw
   case rel => exact ⟨k + 1, by omega, by go_num, by rw [hl2]; exact HP.out, HB.out⟩
   case measure => simp [intOf]; omega
  ·
   obtain rfl : k = l.length := by omega
   rw [turnN_all] at ho
   go_wp2
   go_ret
   exact ⟨_, rfl, ho, hb⟩
theorem eqNum (va vb : Value) (l : List Int) (w : World) (ha : Sls intE w va l) (hb : Sls intE w vb l) (hl : l.length ≤ 1048576) :
  Calls Tryz.prog 87 #[va, vb] w fun e w' => e = .returned (.bool true) ∧ Grew w w' := by
 obtain ⟨a, ca, rfl, a1, a2, a3⟩ := ha.one
 obtain ⟨b, cb, rfl, b1, b2, b3⟩ := hb.one
 clear ha hb
 have hmx := mixed
 go_enter Tryz.func87, Tryz.ntmps87
 go_wp2
 go_loopw [5] (fun i wr => ∃ (k : Nat), k ≤ l.length ∧ i = .int .i64 k ∧ Grew w wr) (fun i _ => l.length - (intOf i).toNat)
 case atStart => exact ⟨0, Nat.zero_le _, rfl, Grew.refl _⟩
 case round =>
  obtain ⟨k, hk, rfl, hg⟩ := hrel
  by_cases hlt : k < l.length
  ·
   obtain ⟨ga, oa, rfl, hga, hca⟩ := a3 (by omega)
   obtain ⟨gb, ob, rfl, hgb, hcb⟩ := b3 (by omega)
   have c1 := hg.cell (hca k hlt) hga
   have c3 := hg.cell (hcb k hlt) hgb
   generalize l[k] = f at c1 c3
   clear a3 b3 hca hcb
   go_wp2
   go_quiet (fail)
   have hg2 : Grew w (wr.drewN nq) := hg.drewN _
   generalize wr.drewN nq = w1 at hg2 ⊢
   go_wp2
   go_roundw
   case rel => exact ⟨k + 1, by omega, by go_num, hg2⟩
   case measure => simp [intOf]; omega
  ·
   go_wp2
   go_ret
   exact ⟨rfl, hg⟩
/-! ### Marks -/
open Go.RowKit

theorem wpList_rowE_at {α : Type} {E : Enc α} {P : Program} {ops : Array Oper} {rest : List Oper} {o : Oper} {a : Act} {Q : Exit → Act → World → Prop} (w : World) (hgd : o.guard = Option.none) (s x : Operand) (ts te : TypeId) (z : Value) (bytes : Nat)
  (hts : P.underlying ts = some (.slice te)) (hinfo : (P.info? te).map (fun i => (i.zero, i.size, i.bytes)) = some (some z, E.k, bytes)) (hz : z.cells.size = E.k)
  (ho : o.op = .call { callee := .builtin .append, args := #[s, x], argTypes := #[ts, ts] }) (B : Nat) (v : Value) (l : List α) (hs : a.eval s = v) (hown : OwnsE E te w B v l)
  (ad : Addr) (c : Nat) (m : List α) (hx : a.eval x = .slice (some ad) m.length c) (hcell : ∀ j u, (cellsE E m)[j]? = some u → w.cell? (ad.add j) = some u)
  (h63 : l.length + m.length ≤ maxLen) (hbytes : (l.length + m.length) * bytes ≤ 140737488355328) (hB : B ≤ w.heap.size)
  (h : ∀ v' w', OwnsE E te w' B v' (l ++ m) → w.grownBy w' v.ownBlock → (v' = .slice Option.none 0 0 ↔ v = .slice Option.none 0 0 ∧ m.length = 0) → (v'.ownBlock = v.ownBlock ∨ v'.ownBlock = some w.heap.size) → wpList P ops Q rest (a.put o.dst v') w') :
  wpList P ops Q (o :: rest) a w := by
 obtain ⟨i0, hi, hz0, hz1, hz2⟩ := info_parts hinfo
 refine wpList_append_own_at _ hgd s x ts ho B te i0 z E.k bytes hts hi hz0 hz1 hz2 hz E.pos v l.length (cellsE E l) hs hown ad m.length c (cellsE E m) hx (cellsE_length E m) hcell (cellsE_one E m) h63 hbytes hB ?_
 intro v' w' h1 h2 h3 h4
 refine h v' w' ?_ h2 h3 h4
 unfold OwnsE
 rw [cellsE_append, List.length_append]
 exact h1
def txtE : Enc ByteArray where
 k := 1
 pos := by decide
 c := fun x => [.string x]
 len := fun _ => rfl
 one := fun x u hu => by simp at hu; subst hu; rfl
open Go.RowKit Go.Sort Rom

def inM (n lo hi : Int) : Bool := decide (lo ≤ n ∧ n ≤ hi)
theorem inRm (n lo hi : Int) (w : World) : Calls Tryz.prog 60 #[.int .i64 n, .int .i64 lo, .int .i64 hi] w fun e w' => e = .returned (.bool (inM n lo hi)) ∧ w = w' := by
 unfold inM
 by_cases h1 : lo ≤ n
 ·
  by_cases h2 : n ≤ hi
  ·
   have e : decide (lo ≤ n ∧ n ≤ hi) = true := decide_eq_true ⟨h1, h2⟩
   rw [e]
   go_enter Tryz.func60, Tryz.ntmps60
   go_wp2
   go_ret
   exact ⟨rfl, rfl⟩
  ·
   have e : decide (lo ≤ n ∧ n ≤ hi) = false := decide_eq_false fun h => h2 h.2
   rw [e]
   go_enter Tryz.func60, Tryz.ntmps60
   go_wp2
   go_ret
   exact ⟨rfl, rfl⟩
 ·
  have e : decide (lo ≤ n ∧ n ≤ hi) = false := decide_eq_false fun h => h1 h.1
  rw [e]
  go_enter Tryz.func60, Tryz.ntmps60
  go_wp2
  go_ret
  exact ⟨rfl, rfl⟩
theorem ownsN_lit (w : World) (x : Int) : OwnsN (w.alloc (.cells #[.int .i64 x] 2)) w.heap.size (.slice (some ⟨w.heap.size, 0, none⟩) 1 1) [x] :=
 World.ownsRow_lit w #[.int .i64 x] 1 (Nat.le_refl _) (by unfold maxLen; decide) rfl
open Go.RowKit

theorem extB {a b : ByteArray} (h : a.data.toList = b.data.toList) : a = b := ByteArray.ext (Array.ext' h)
def decB (d : Nat) : UInt8 := UInt8.ofNat (48 + d)
def decF : Nat → Nat → List UInt8
 | 0, _ => []
 | f + 1, n => if n = 0 then [] else decF f (n / 10) ++ [decB (n % 10)]
theorem decF_zero (f : Nat) : decF f 0 = [] := by cases f <;> simp [decF]
theorem decF_step (f n : Nat) (h : 0 < n) : decF (f + 1) n = decF f (n / 10) ++ [decB (n % 10)] := by simp [decF]; omega
def mkT (n : Nat) : ByteArray := ⟨(109 :: decF 20 n).toArray⟩
theorem dec_more {n m f : Nat} {x : ByteArray} (hm : m < 10 ^ f) (h0 : 0 < m) (h : decF 20 n = decF f m ++ x.data.toList) : ∃ f', m / 10 < 10 ^ f' ∧ decF 20 n = decF f' (m / 10) ++ (decB (m % 10) :: x.data.toList) := by
 cases f with
 | zero => simp at hm; omega
 | succ f =>
  refine ⟨f, ?_, ?_⟩
  ·
   rw [Nat.pow_succ] at hm
   exact Nat.div_lt_of_lt_mul (by rw [Nat.mul_comm]; exact hm)
  ·
   rw [h, decF_step f m h0]
   simp
theorem dec_byte (m : Nat) : (48 + (m : Int) % 10) = ((decB (m % 10)).toNat : Int) := by
 have h : (decB (m % 10)).toNat = 48 + m % 10 := by
  unfold decB
  rw [UInt8.toNat_ofNat']
  exact Nat.mod_eq_of_lt (by omega)
 rw [h]
 omega
theorem byte_text (w : World) (n : Int) (c : UInt8) (h : n = (c.toNat : Int)) : (convert 22 9 (.slice (some ⟨w.heap.size, 0, none⟩) 1 1)).run Tryz.prog (w.alloc (.cells #[.int .u8 n] 5)) = .ok (.string ⟨#[c]⟩) (w.alloc (.cells #[.int .u8 n] 5)) := by
 subst h
 refine run_convert_bytes_back (P := Tryz.prog) _ 22 9 5 ⟨w.heap.size, 0, none⟩ 1 [c] Tryz.underlying22 Tryz.underlying5 Tryz.underlying9 (fun q hq => ?_)
 have e : q = 0 := by simp at hq; exact hq
 subst e
 show (w.alloc (.cells #[.int .u8 (c.toNat : Int)] 5)).cell? ⟨w.heap.size, 0, none⟩ = _
 rw [World.cell?_alloc_mark]
 rfl
theorem cat_cons (c : UInt8) (x : ByteArray) : ((⟨#[c]⟩ : ByteArray) ++ x).data.toList = c :: x.data.toList := by
 rw [ByteArray.data_append, Array.toList_append]; rfl
theorem size_cat (c : UInt8) (x : ByteArray) : ((⟨#[c]⟩ : ByteArray) ++ x).size = x.size + 1 := by
 rw [ByteArray.size_append]
 show 1 + x.size = x.size + 1
 omega
theorem mkT_is {n : Nat} {x : ByteArray} (h : decF 20 n = x.data.toList) : (⟨#[109]⟩ : ByteArray) ++ x = mkT n := by
 apply extB
 rw [cat_cons, ← h]
 rfl
theorem ret_text {a b : ByteArray} (h : a = b) : Ending.returned (.string a) = .returned (.string b) := by rw [h]

theorem markText (n : Nat) (h1 : 1 ≤ n) (h2 : n ≤ 100000000) (w : World) :
  Calls Tryz.prog 129 #[.int .i64 n] w fun e w' => e = .returned (.string (mkT n)) ∧ Below w.heap.size w w' := by
 have hbound : n < 10 ^ 20 := by omega
 have HB : Hid (n < 10 ^ 20) := hbound
 clear hbound
 go_enter Tryz.func129, Tryz.ntmps129
 go_wp2
 go_loopw [0, 3] (fun a b wr => ∃ (m f : Nat) (x : ByteArray), a = .int .i64 m ∧ b = .string x ∧ m ≤ 100000000 ∧ x.size + m ≤ 100000000 ∧ Below w.heap.size w wr ∧ Hid (m < 10 ^ f) ∧ Hid (decF 20 n = decF f m ++ x.data.toList)) (fun a _ _ => (intOf a).toNat)
 case atStart => exact ⟨n, 20, ⟨#[]⟩, rfl, rfl, h2, by show 0 + n ≤ _; omega, Below.refl _ _, HB, by show decF 20 n = decF 20 n ++ []; rw [List.append_nil]⟩
 case round =>
  obtain ⟨m, f, x, rfl, rfl, hm, hxm, hb, hmf, hx⟩ := hrel
  by_cases h0 : 0 < m
  ·
   obtain ⟨f', g1, g2⟩ := dec_more hmf.out h0 hx.out
   have HM : Hid (m / 10 < 10 ^ f') := g1
   have HX : Hid (decF 20 n = decF f' (m / 10) ++ (decB (m % 10) :: x.data.toList)) := g2
   clear g1 g2
   have hback := byte_text wr (48 + (m : Int) % 10) (decB (m % 10)) (dec_byte m)
   have hbs := hb.size
   go_wp2
   go_roundw
   case rel => exact ⟨m / 10, f', _, by go_num, rfl, by omega, by rw [size_cat]; omega, hb.alloc hbs _, HM, by rw [cat_cons]; exact HX⟩
   case measure => simp [intOf]; omega
  ·
   obtain rfl : m = 0 := by omega
   have HX : Hid (decF 20 n = x.data.toList) := by
    show decF 20 n = x.data.toList
    rw [hx.out, decF_zero]; rfl
   go_wp2
   go_ret
   exact ⟨ret_text (mkT_is HX.out), hb⟩

open Go.RowKit

theorem Tryz.info9p : (Tryz.prog.info? 9).map (fun i => (i.zero, i.size, i.bytes)) = some (some (.string ⟨#[]⟩), 1, 16) := by kernel_rfl
def StrsP (w : World) (v : Value) (l : List ByteArray) : Prop := ∃ a cap, v = .slice a l.length cap ∧ l.length ≤ cap ∧ cap ≤ maxLen ∧ (0 < l.length → ∃ g o, a = some ⟨g, o, none⟩ ∧ g < w.heap.size ∧ ∀ j (hj : j < l.length), w.cell? ⟨g, o + j, none⟩ = some (.string l[j]))
def OwnsP (w : World) (B : Nat) (v : Value) (l : List ByteArray) : Prop := w.ownsRow B 9 1 v l.length (l.map Value.string)
def turnP (l : List ByteArray) (k : Nat) : List ByteArray := l.take k ++ List.replicate (l.length - k) ⟨#[]⟩
theorem turnP_length (l : List ByteArray) (k : Nat) (hk : k ≤ l.length) : (turnP l k).length = l.length := by unfold turnP; simp; omega
theorem turnP_all (l : List ByteArray) : turnP l l.length = l := by simp [turnP]
theorem turnP_next (l : List ByteArray) (k : Nat) (hk : k < l.length) : (turnP l k).set k l[k] = turnP l (k + 1) := by
 unfold turnP
 have e : (l.take k).length = k := by simp; omega
 rw [List.set_append_right _ _ (by omega), e, Nat.sub_self, List.take_succ_eq_append_getElem hk, List.append_assoc]
 congr 1
 rw [show l.length - k = (l.length - (k + 1)) + 1 from by omega, List.replicate_succ, List.set_cons_zero]
 rfl
theorem OwnsP.put {w : World} {B g cap n : Nat} {l : List ByteArray} (h : OwnsP w B (.slice (some ⟨g, 0, none⟩) n cap) l) (hn : n = l.length) (k : Nat) (s : ByteArray) : OwnsP (w.setCell ⟨g, k, none⟩ (.string s)) B (.slice (some ⟨g, 0, none⟩) n cap) (l.set k s) := by
 subst hn
 rcases h.2 with ⟨e, _⟩ | ⟨g', cap', cur, e, hb, hg, hc, hm, hz, rest⟩
 ·
  cases e
 ·
  obtain ⟨rfl, rfl⟩ : g = g' ∧ cap = cap' := by simpa using e
  refine ⟨by simp, .inr ⟨g, cap, cur.setIfInBounds k (.string s), by simp, hb, ?_, by simpa using hc, hm, by simpa using hz, ?_⟩⟩
  ·
   rw [setCell_eq_setRow w g k cur 9 (0, 0) _ hg]
   exact setRow_heap w g cur _ 9 _ hg
  ·
   simp only [Nat.mul_one] at rest ⊢
   rw [List.length_set, Array.toList_setIfInBounds, List.take_set, rest, List.map_set]
theorem OwnsP.at {w : World} {B g cap n : Nat} {l : List ByteArray} (h : OwnsP w B (.slice (some ⟨g, 0, none⟩) n cap) l) (hn : n = l.length) (k : Nat) (hk : k < l.length) : w.cell? ⟨g, k, none⟩ = some (.string l[k]) ∧ w.frozen? ⟨g, k, none⟩ = false := by
 subst hn
 refine ⟨?_, World.ownsRow.frozenAt h k⟩
 have := World.ownsRow.cells h (g := g) rfl k (.string l[k]) (by rw [List.getElem?_map, List.getElem?_eq_getElem hk]; rfl)
 rw [addr_add, Nat.zero_add] at this
 exact this
theorem made_strs (n : Nat) : (madeCells (Value.cells (.string ⟨#[]⟩)) (n * 1)).toList = (List.replicate n (⟨#[]⟩ : ByteArray)).map Value.string := by
 have e := toList_madeCells_one (.string ⟨#[]⟩) (n * 1)
 rw [show (Value.string ⟨#[]⟩).cells = #[.string ⟨#[]⟩] from rfl, e, Nat.mul_one, List.map_replicate]
theorem make_strs (w : World) (n : Nat) (hn : n ≤ 1048576) : ∃ w', (Instr.makeSlice 24 (.int .i64 (n : Int)) (.int .i64 (n : Int))).run Tryz.prog w = .ok (.slice (some ⟨w.heap.size, 0, none⟩) n n) w' ∧ OwnsP w' w.heap.size (.slice (some ⟨w.heap.size, 0, none⟩) n n) (List.replicate n ⟨#[]⟩) ∧ Below w.heap.size w w' := by
 obtain ⟨i0, hi, hz0, hz1, hz2⟩ := info_parts Tryz.info9p
 obtain ⟨w0, hrun, hown, hgr⟩ := run_make_full (P := Tryz.prog) w w.heap.size 24 9 i0 (.string ⟨#[]⟩) 1 Tryz.underlying24 hi hz0 hz1 .i64 .i64 n (by rw [hz2]; omega) (by unfold maxLen; omega) (Nat.le_refl _)
 rw [made_strs] at hown
 refine ⟨w0, hrun, ?_, (Below.refl _ w).grown hgr (Nat.le_refl _) (fun j hj => by cases hj)⟩
 unfold OwnsP
 rw [List.length_replicate]
 exact hown

theorem lawToS (v : Value) (l : List ByteArray) (w : World) (h : StrsP w v l) (hl : l.length ≤ 1048576) :
  Calls Tryz.prog 83 #[v] w fun e w' => ∃ u, e = .returned u ∧ OwnsP w' w.heap.size u l ∧ Below w.heap.size w w' := by
 obtain ⟨a, cap, rfl, h1, h2, h3⟩ := h
 unfold maxLen at h2
 obtain ⟨w0, hrun, hown0, hb0⟩ := make_strs w l.length hl
 have h00 : turnP l 0 = List.replicate l.length ⟨#[]⟩ := by simp [turnP]
 rw [← h00] at hown0
 have H3 : Hid _ := h3
 clear h3 h00
 go_enter Tryz.func83, Tryz.ntmps83
 go_wp2
 go_loopw [4] (fun i wr => ∃ k : Nat, k ≤ l.length ∧ i = .int .i64 k ∧ OwnsP wr w.heap.size (.slice (some ⟨w.heap.size, 0, none⟩) l.length l.length) (turnP l k) ∧ Below w.heap.size w wr) (fun i _ => l.length - (intOf i).toNat)
 case atStart => exact ⟨0, Nat.zero_le _, rfl, hown0, hb0⟩
 case round =>
  clear hown0 hb0 hrun
  obtain ⟨k, hk, rfl, ho, hb⟩ := hrel
  by_cases hlt : k < l.length
  ·
   obtain ⟨g, o, rfl, hg, hc⟩ := H3.out (by omega)
   have c1 := (hb.cell (p := ⟨g, o + k, none⟩) hg).trans (hc k hlt)
   have hnx := turnP_next l k hlt
   have hln := turnP_length l k hk
   generalize l[k] = f at c1 hnx
   generalize hl2 : turnP l (k + 1) = l2 at hnx
   generalize turnP l k = l1 at ho hnx hln
   obtain ⟨d1, d2⟩ := ho.at hln.symm k (by omega)
   have hp := ho.put hln.symm k f
   rw [hnx] at hp
   have HP : Hid _ := hp
   clear hc hp hnx
   go_wp2
   go_roundw
   case rel => exact ⟨k + 1, by omega, by go_num, by rw [hl2]; exact HP.out, hb.setCell (Nat.le_refl _) _⟩
   case measure => simp [intOf]; omega
  ·
   obtain rfl : k = l.length := by omega
   rw [turnP_all] at ho
   go_wp2
   go_ret
   exact ⟨_, rfl, ho, hb⟩

open Go.RowKit Go.Sort

abbrev OwnsX := OwnsE txtE 9
abbrev HasX := HasE txtE 9
theorem cellsX_map (l : List ByteArray) : cellsE txtE l = l.map Value.string := by
 induction l with
 | nil => rfl
 | cons x l ih => rw [cellsE_cons, ih]; rfl
theorem OwnsP.x {w : World} {B : Nat} {v : Value} {l : List ByteArray} (h : OwnsP w B v l) : OwnsX w B v l := by
 show w.ownsRow B 9 1 v l.length (cellsE txtE l)
 rw [cellsX_map]
 exact h
theorem cellsX_at (l : List ByteArray) (j : Nat) (hj : j < l.length) : (cellsE txtE l)[j]? = some (.string l[j]) := by
 have := cellsE_at txtE l j hj 0 (by decide)
 rw [show j * txtE.k + 0 = j from by show j * 1 + 0 = j; omega] at this
 exact this
theorem Sls.txt {w : World} {v : Value} {l : List ByteArray} (h : Sls txtE w v l) : ∃ a cap, v = .slice a l.length cap ∧ l.length ≤ cap ∧ cap ≤ maxLen ∧ (0 < l.length → ∃ g o, a = some ⟨g, o, Option.none⟩ ∧ g < w.heap.size ∧
  ∀ j (hj : j < l.length), w.cell? ⟨g, o + j, Option.none⟩ = some (.string l[j])) := by
 obtain ⟨a, cap, rfl, h1, h2, h3⟩ := h
 refine ⟨a, cap, rfl, h1, h2, fun h0 => ?_⟩
 obtain ⟨g, o, rfl, hg, hc⟩ := h3 h0
 exact ⟨g, o, rfl, hg, fun j hj => hc j _ (cellsX_at l j hj)⟩
theorem hasX_at {w : World} {B g n cap : Nat} {l : List ByteArray} (h : HasX w B (.slice (some ⟨g, 0, Option.none⟩) n cap) l) (j : Nat) (hj : j < l.length) : w.cell? ⟨g, j, Option.none⟩ = some (.string l[j]) := by
 have := h.at (i := 0) hj (u := .string l[j]) rfl
 rw [show j * txtE.k + 0 = j from by show j * 1 + 0 = j; omega] at this
 exact this
theorem hasX_put {w : World} {B g n cap : Nat} {l : List ByteArray} (h : HasX w B (.slice (some ⟨g, 0, Option.none⟩) n cap) l) {j : Nat} (hj : j < l.length) (x : ByteArray) : HasX (w.setCell ⟨g, j, Option.none⟩ (.string x)) B (.slice (some ⟨g, 0, Option.none⟩) n cap) (l.set j x) := by
 have := h.put hj (i := 0) (by decide) (.string x) x rfl
 rw [show j * txtE.k + 0 = j from by show j * 1 + 0 = j; omega] at this
 exact this
theorem eqTxt (va vb : Value) (l : List ByteArray) (w : World) (ha : Sls txtE w va l) (hb : Sls txtE w vb l) (hl : l.length ≤ 1048576) :
  Calls Tryz.prog 86 #[va, vb] w fun e w' => e = .returned (.bool true) ∧ Grew w w' := by
 obtain ⟨a, ca, rfl, a1, a2, a3⟩ := ha.txt
 obtain ⟨b, cb, rfl, b1, b2, b3⟩ := hb.txt
 clear ha hb
 have hmx := mixed
 go_enter Tryz.func86, Tryz.ntmps86
 go_wp2
 go_loopw [5] (fun i wr => ∃ (k : Nat), k ≤ l.length ∧ i = .int .i64 k ∧ Grew w wr) (fun i _ => l.length - (intOf i).toNat)
 case atStart => exact ⟨0, Nat.zero_le _, rfl, Grew.refl _⟩
 case round =>
  obtain ⟨k, hk, rfl, hg⟩ := hrel
  by_cases hlt : k < l.length
  ·
   obtain ⟨ga, oa, rfl, hga, hca⟩ := a3 (by omega)
   obtain ⟨gb, ob, rfl, hgb, hcb⟩ := b3 (by omega)
   have c1 := hg.cell (hca k hlt) hga
   have c3 := hg.cell (hcb k hlt) hgb
   generalize l[k] = f at c1 c3
   clear a3 b3 hca hcb
   go_wp2
   go_quiet (fail)
   have hg2 : Grew w (wr.drewN nq) := hg.drewN _
   generalize wr.drewN nq = w1 at hg2 ⊢
   go_wp2
   go_roundw
   case rel => exact ⟨k + 1, by omega, by go_num, hg2⟩
   case measure => simp [intOf]; omega
  ·
   go_wp2
   go_ret
   exact ⟨rfl, hg⟩
def markedX (s : Nat) (l : List ByteArray) (k : Nat) : List ByteArray := (List.range k).map (fun j => mkT (s + j)) ++ l.drop k
def marksX (s n : Nat) : List ByteArray := (List.range n).map (fun j => mkT (s + j))
theorem markedX_length (s : Nat) (l : List ByteArray) (k : Nat) (h : k ≤ l.length) : (markedX s l k).length = l.length := by unfold markedX; simp; omega
theorem markedX_zero (s : Nat) (l : List ByteArray) : markedX s l 0 = l := by simp [markedX]
theorem markedX_all (s : Nat) (l : List ByteArray) : markedX s l l.length = marksX s l.length := by simp [markedX, marksX]
theorem markedX_next (s : Nat) (l : List ByteArray) (k : Nat) (h : k < l.length) : (markedX s l k).set k (mkT (s + k)) = markedX s l (k + 1) := by
 unfold markedX
 have e : ((List.range k).map (fun j => mkT (s + j))).length = k := by simp
 rw [List.set_append_right _ _ (by omega), e, Nat.sub_self, List.range_succ, List.map_append, List.append_assoc]
 congr 1
 rw [List.drop_eq_getElem_cons h, List.set_cons_zero]
 rfl
theorem marksX_length (s n : Nat) : (marksX s n).length = n := by simp [marksX]
theorem marksX_at (s n j : Nat) (h : j < (marksX s n).length) : (marksX s n)[j] = mkT (s + j) := by simp [marksX]
theorem markTxt (s : Nat) (hs1 : 1 ≤ s) (hs2 : s ≤ 50000000) (v : Value) (l : List ByteArray) (B : Nat) (w : World) (h : HasX w B v l) (hl : l.length ≤ 1048576) :
  Calls Tryz.prog 88 #[v, .int .i64 (s : Int)] w fun e w' => e = .returned (.int .i64 ((s : Int) + (l.length : Int))) ∧ HasX w' B v (marksX s l.length) ∧ w.grownBy w' v.ownBlock := by
 have hh := h
 obtain ⟨a, cap, rfl, h1, h2, h3⟩ := hh.form
 unfold maxLen at h2
 go_enter Tryz.func88, Tryz.ntmps88
 go_wp2
 go_loopw [1, 5] (fun m i wr => ∃ k : Nat, k ≤ l.length ∧ i = .int .i64 k ∧ m = .int .i64 ((s : Int) + (k : Int)) ∧ HasX wr B (.slice a l.length cap) (markedX s l k) ∧ w.grownBy wr (Value.slice a l.length cap).ownBlock) (fun _ i _ => l.length - (intOf i).toNat)
 case atStart => exact ⟨0, Nat.zero_le _, rfl, by simp, by rw [markedX_zero]; exact h, grownE_self _ _⟩
 case round =>
  clear h hh
  obtain ⟨k, hk, rfl, rfl, ho, hgr⟩ := hrel
  by_cases hlt : k < l.length
  ·
   obtain ⟨g, rfl⟩ := h3 (by omega)
   have hml := markedX_length s l k hk
   have hnx := markedX_next s l k hlt
   generalize hl2 : markedX s l (k + 1) = l2 at hnx
   generalize markedX s l k = l1 at ho hml hnx
   have m1 := fun wx => markText (s + k) (by omega) (by omega) wx
   simp only [Int.natCast_add] at m1
   have hki : (k : Int) < (l.length : Int) := by omega
   clear h3
   go_wp2_with fail
   refine (m1 _).mono ?_
   rintro e w1 ⟨rfl, hb1⟩
   have ho1 := ho.kept hb1
   have d1 := hasX_at ho1 k (by omega)
   have f1 := ho1.free k
   have hg1 := grownE_below hgr hb1
   have ho2 := hasX_put ho1 (j := k) (by omega) (mkT (s + k))
   have hg2 := grownE_put hg1 k (.string (mkT (s + k)))
   rw [hnx] at ho2
   have HO : Hid (HasX (w1.setCell ⟨g, k, none⟩ (.string (mkT (s + k)))) B (.slice (some ⟨g, 0, none⟩) l.length cap) l2) := ho2
   have HG : Hid _ := hg2
   clear ho hgr hb1 ho1 hg1 ho2 hg2
   go_wp2
   go_roundw
   case rel => exact ⟨k + 1, by omega, by go_num, by go_num, by rw [hl2]; exact HO.out, HG.out⟩
   case measure => simp [intOf]; omega
  ·
   obtain rfl : k = l.length := by omega
   rw [markedX_all] at ho
   go_wp2
   go_ret
   exact ⟨rfl, ho, hgr⟩
theorem heldTxt (s : Nat) (hs1 : 1 ≤ s) (hs2 : s ≤ 50000000) (v : Value) (n : Nat) (w : World) (h : Sls txtE w v (marksX s n)) (hl : n ≤ 1048576) :
  Calls Tryz.prog 90 #[v, .int .i64 (s : Int)] w fun e w' => e = .returned (.int .i64 ((s : Int) + (n : Int))) ∧ Below w.heap.size w w' := by
 have hml := marksX_length s n
 obtain ⟨a, cap, rfl, h1, h2, h3⟩ := h.txt
 unfold maxLen at h2
 rw [hml] at h1 ⊢
 have hat : Hid (∀ (j : Nat) (hj : j < n) W, Below w.heap.size w W → ∃ g o, a = some ⟨g, o, Option.none⟩ ∧ W.cell? ⟨g, o + j, Option.none⟩ = some (.string (mkT (s + j)))) := (show ∀ _, _ from fun j hj W hW => by
  obtain ⟨g, o, ha, hg, hc⟩ := h3 (by omega)
  have c1 := hc j (by omega)
  rw [marksX_at] at c1
  exact ⟨g, o, ha, (hW.cell (p := ⟨g, o + j, none⟩) hg).trans c1⟩)
 clear h h3 hml
 go_enter Tryz.func90, Tryz.ntmps90
 go_wp2
 go_loopw [1, 5] (fun m i wr => ∃ k : Nat, k ≤ n ∧ i = .int .i64 k ∧ m = .int .i64 ((s : Int) + (k : Int)) ∧ Hid (Below w.heap.size w wr)) (fun _ i _ => n - (intOf i).toNat)
 case atStart => exact ⟨0, Nat.zero_le _, rfl, by simp, (show Hid _ from Below.refl _ _)⟩
 case round =>
  obtain ⟨k, hk, rfl, rfl, hb⟩ := hrel
  by_cases hlt : k < n
  ·
   obtain ⟨g, o, rfl, c1⟩ := hat.out k hlt wr hb.out
   have m1 := fun wx => markText (s + k) (by omega) (by omega) wx
   simp only [Int.natCast_add] at m1
   have hki : (k : Int) < (n : Int) := by omega
   have j1 : ∀ d os, Calls Tryz.prog 129 #[.int .i64 ((s : Int) + (k : Int))] (grow (redrawn wr d) os) fun e w'' => e = .returned (.string (mkT (s + k))) ∧ ∃ p : Regrown, w'' = grow (redrawn wr p.d) p.os := fun d os => Calls.regrown_of (m1 _)
   have k1 := cell_regrown c1
   generalize mkT (s + k) = T at j1 k1
   have eT : (T.toList == T.toList) = true := by simp
   clear c1 m1
   go_wp2_with fail
   refine wp_region_quiet_below (by kernel_rfl) (by kernel_rfl) ?_
   repeat (go_big_quiet_step (with_reducible exact j1 _ _))
   refine wpQuiet_nil ?_
   intro _ hw'
   obtain ⟨⟨dq, osq⟩, hw''⟩ := hw'
   subst hw''
   have hbn : Below wr.heap.size wr (grow (redrawn wr dq) osq) := below_regrown wr dq osq
   have BN := hH_ (hb.out.trans (hbn.mono hb.out.size))
   generalize grow (redrawn wr dq) osq = wn at BN hbn ⊢
   clear k1 j1 hbn
   go_wp2
   go_roundw
   case rel => exact ⟨k + 1, by omega, by go_num, by go_num, BN⟩
   case measure => simp [intOf]; omega
  ·
   obtain rfl : k = n := by omega
   go_wp2
   go_ret
   exact ⟨rfl, hb.out⟩
theorem toTxt (v : Value) (l : List ByteArray) (w : World) (h : Sls txtE w v l) (hl : l.length ≤ 1048576) :
  Calls Tryz.prog 83 #[v] w fun e w' => ∃ u, e = .returned u ∧ OwnsX w' w.heap.size u l ∧ Below w.heap.size w w' :=
 (lawToS v l w h.txt hl).mono fun e w' ⟨u, h1, h2, h3⟩ => ⟨u, h1, h2.x, h3⟩
end Go.Proofs.YtdkhdjickkcaiaaGreat

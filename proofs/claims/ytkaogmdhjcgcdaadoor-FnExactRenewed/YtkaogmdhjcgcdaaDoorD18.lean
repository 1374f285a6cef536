/-
  The program's policy by its contracts: keys, moments, what is a right object.
  The contracts of the law's own helpers: slices of texts compared, marked, and asked for their marks.
  Slices of fields that a call has for itself, whatever room lies behind them; how the law marks them, and asks for the marks.
  The contracts of the law's own helpers that mark fields, and ask for the marks.
-/
import Derived.Test.YtkaogmdhjcgcdaaDoorD15
import Derived.Test.YtkaogmdhjcgcdaaDoorD11
import Derived.Test.YtkaogmdhjcgcdaaDoorD17
import Derived.Test.YtkaogmdhjcgcdaaDoorD05
import Derived.Deep.QuietTactic
import Derived.BigQuiet
import Derived.Deep.RegionWith
import Derived.Laws.IdiomStrings
import Derived.Test.YtkaogmdhjcgcdaaDoorD08
namespace Go.Proofs.YtkaogmdhjcgcdaaDoor
open Go.RowKit Go.Sort
set_option linter.unusedVariables false

set_option maxHeartbeats 1000000 in
theorem implSol (s : ByteArray) (w : World) (hs : s.size ≤ 1048576) :
    Calls Tryd.prog 25 #[.string s, .int .i64 500] w fun e w' => e = .returned (.bool (keyO s)) ∧ w = w' := by
  have HK : Hid (keyO s = (allB keyN s.data.toList && decide (s.size ≤ 500))) := rfl
  generalize keyO s = K at HK ⊢
  by_cases h5 : (500 : Int) < (s.size : Int)
  · have HF : Hid (false = K) := by show _ = _; rw [HK.out, decide_eq_false (by omega), Bool.and_false]
    go_enter Tryd.func25, Tryd.ntmps25
    go_wp2
    go_ret
    exact ⟨ret_bool HF.out, rfl⟩
  · go_enter Tryd.func25, Tryd.ntmps25
    go_wp2
    go_loop [12] (fun i => ∃ k : Nat, k ≤ s.size ∧ i = .int .i64 k ∧ Hid (allB keyN (s.data.toList.take k) = true)) (fun i => s.size - (intOf i).toNat)
    case atStart => exact ⟨0, Nat.zero_le _, rfl, allB_nil _ _⟩
    case round =>
      obtain ⟨k, hk, rfl, ha⟩ := hrel
      by_cases hlt : k < s.size
      · by_cases hl : (s[k].toNat : Int) < 33
        · have HF : Hid (false = K) := by show _ = _; rw [HK.out, ← allB_not (p := keyN) hlt (keyN_no (by omega))]; rfl
          go_wp2
          go_ret
          exact ⟨ret_bool HF.out, rfl⟩
        · by_cases hg : 126 < (s[k].toNat : Int)
          · have HF : Hid (false = K) := by show _ = _; rw [HK.out, ← allB_not (p := keyN) hlt (keyN_no (by omega))]; rfl
            go_wp2
            go_ret
            exact ⟨ret_bool HF.out, rfl⟩
          · have HV : Hid (allB keyN (s.data.toList.take (k + 1)) = true) := allB_step hlt ha.out (keyN_yes (by omega))
            go_wp2
            go_round
            case rel => exact ⟨k + 1, by omega, by go_num, HV⟩
            case measure => simp [intOf]; omega
      · have HE : Hid (true = K) := by
          show _ = _
          have e : s.data.toList.take k = s.data.toList := List.take_of_length_le (by simp; omega)
          have h2 := ha.out
          rw [e] at h2
          rw [HK.out, h2, Bool.true_and, decide_eq_true (by omega)]
        go_wp2
        go_ret
        exact ⟨ret_bool HE.out, rfl⟩
theorem implMomB (n : Int) (w : World) : Calls Tryd.prog 28 #[.int .i64 n] w fun e w' => e = .returned (.bool (momB n)) ∧ w = w' := by
  have HB : Hid (momB n = (decide (0 ≤ n) && decide (n ≤ 253402300799))) := rfl
  generalize momB n = b at HB ⊢
  by_cases h0 : 0 ≤ n
  · have HR : Hid (decide (n ≤ 253402300799) = b) := by show _ = _; rw [HB.out, decide_eq_true h0, Bool.true_and]
    go_enter Tryd.func28, Tryd.ntmps28
    go_wp2
    go_ret
    exact ⟨ret_bool HR.out, rfl⟩
  · have HR : Hid (false = b) := by show _ = _; rw [HB.out, decide_eq_false h0, Bool.false_and]
    go_enter Tryd.func28, Tryd.ntmps28
    go_wp2
    go_ret
    exact ⟨ret_bool HR.out, rfl⟩
set_option maxHeartbeats 4000000 in
theorem implObOk (o : Ob) (v u : Value) (w : World) (h : ObIn w v u o) :
    Calls Tryd.prog 8 #[obV o v u] w fun e w' => e = .returned (.bool (obB o)) ∧ Below w.heap.size w w' := by
  have HB : Hid (obB o = (keyO o.k && (fldsOk o.l && (rsOk o.r && (momB o.asked && (momB o.got && (decide (o.asked ≤ o.got) && (decide (0 ≤ o.ep) && decide (o.ep ≤ 100000))))))))) := rfl
  have j1 := fun W => implSol o.k W h.2.2
  have j2 := fun W (hW : Fits W v o.l) => implOk v o.l W hW.1 hW.2.1
  have j3 := fun W hW => implRsOk o.r u W hW
  have j4 := fun W => implMomB o.asked W
  have j5 := fun W => implMomB o.got W
  skip
  generalize obB o = R at HB ⊢
  generalize keyO o.k = b1 at HB j1
  generalize fldsOk o.l = b2 at HB j2
  generalize rsOk o.r = b3 at HB j3
  generalize momB o.asked = b4 at HB j4
  generalize momB o.got = b5 at HB j5
  obtain ⟨va, vc, rfl⟩ := h.1.form
  obtain ⟨ua, uc, rfl⟩ := h.2.1.1.form
  have Q0 : Hid (ObB (w.alloc (.cells #[.string o.k, .slice va o.l.length vc, .int .i64 o.r.s, .slice ua o.r.l.length uc, .string o.r.b, .int .i64 o.asked, .int .i64 o.got, .int .i64 o.ep] 33)) w.heap.size o (.slice va o.l.length vc) (.slice ua o.r.l.length uc)) := ObB.new w o _ _ _
  have B0 : Hid (Below w.heap.size w (w.alloc (.cells #[.string o.k, .slice va o.l.length vc, .int .i64 o.r.s, .slice ua o.r.l.length uc, .string o.r.b, .int .i64 o.asked, .int .i64 o.got, .int .i64 o.ep] 33))) := (Below.refl _ w).alloc (Nat.le_refl _) _
  have I0 : Hid (ObIn (w.alloc (.cells #[.string o.k, .slice va o.l.length vc, .int .i64 o.r.s, .slice ua o.r.l.length uc, .string o.r.b, .int .i64 o.asked, .int .i64 o.got, .int .i64 o.ep] 33)) (.slice va o.l.length vc) (.slice ua o.r.l.length uc) o) := h.kept B0.out
  clear h
  unfold obV
  unfold rsV at j3
  go_enter Tryd.func8, Tryd.ntmps8
  go_wp2_with fail
  refine (j1 _).mono ?_
  rintro e w1 ⟨rfl, rfl⟩
  clear j1
  cases b1 with
  | false =>
    have HR : Hid (false = R) := HB.out.symm
    go_wp2
    go_ret
    exact ⟨ret_bool HR.out, B0.out⟩
  | true =>
    go_wp2_with fail
    refine (j2 _ I0.out.1).mono ?_
    rintro e w2 ⟨rfl, hb2⟩
    have Q2 : Hid (ObB w2 w.heap.size o (.slice va o.l.length vc) (.slice ua o.r.l.length uc)) := Q0.out.next hb2
    have B2 : Hid (Below w.heap.size w w2) := past6 B0.out hb2
    have I2 : Hid (ObIn w2 (.slice va o.l.length vc) (.slice ua o.r.l.length uc) o) := I0.out.kept hb2
    clear hb2 Q0 B0 I0 j2
    cases b2 with
    | false =>
      have HR : Hid (false = R) := HB.out.symm
      go_wp2
      go_ret
      exact ⟨ret_bool HR.out, B2.out⟩
    | true =>
      have d2 := Q2.out.c2
      have d3 := Q2.out.c3
      have d4 := Q2.out.c4
      go_wp2_with fail
      refine (j3 _ I2.out.2.1).mono ?_
      rintro e w3 ⟨rfl, hb3⟩
      have Q3 : Hid (ObB w3 w.heap.size o (.slice va o.l.length vc) (.slice ua o.r.l.length uc)) := Q2.out.next hb3
      have B3 : Hid (Below w.heap.size w w3) := past6 B2.out hb3
      clear hb3 Q2 B2 I2 j3 d2 d3 d4
      have d5 := Q3.out.c5
      have d6 := Q3.out.c6
      have d7 := Q3.out.c7
      cases b3 with
      | false =>
        have HR : Hid (false = R) := HB.out.symm
        go_wp2
        go_ret
        exact ⟨ret_bool HR.out, B3.out⟩
      | true =>
        go_wp2_with fail
        refine (j4 _).mono ?_
        rintro e w4 ⟨rfl, rfl⟩
        clear j4
        cases b4 with
        | false =>
          have HR : Hid (false = R) := HB.out.symm
          go_wp2
          go_ret
          exact ⟨ret_bool HR.out, B3.out⟩
        | true =>
          go_wp2_with fail
          refine (j5 _).mono ?_
          rintro e w5 ⟨rfl, rfl⟩
          clear j5
          cases b5 with
          | false =>
            have HR : Hid (false = R) := HB.out.symm
            go_wp2
            go_ret
            exact ⟨ret_bool HR.out, B3.out⟩
          | true =>
            by_cases hag : o.asked ≤ o.got
            · have da : decide (o.asked ≤ o.got) = true := decide_eq_true hag
              by_cases h0 : 0 ≤ o.ep
              · have d0 : decide (0 ≤ o.ep) = true := decide_eq_true h0
                have HR : Hid (decide (o.ep ≤ 100000) = R) := by show _ = _; rw [HB.out, da, d0]; simp
                go_wp2
                go_ret
                exact ⟨ret_bool HR.out, B3.out⟩
              · have d0 : decide (0 ≤ o.ep) = false := decide_eq_false h0
                have HR : Hid (false = R) := by show _ = _; rw [HB.out, da, d0]; simp
                go_wp2
                go_ret
                exact ⟨ret_bool HR.out, B3.out⟩
            · have da : decide (o.asked ≤ o.got) = false := decide_eq_false hag
              have HR : Hid (false = R) := by show _ = _; rw [HB.out, da]; simp
              go_wp2
              go_ret
              exact ⟨ret_bool HR.out, B3.out⟩
end Go.Proofs.YtkaogmdhjcgcdaaDoor
namespace Go.Proofs.YtkaogmdhjcgcdaaDoor
open Go.RowKit

/-- What a walk reads of an owned slice of texts. -/
theorem OwnsS.at {w : World} {B g n cap : Nat} {l : List ByteArray} (h : OwnsS w B (.slice (some ⟨g, 0, none⟩) n cap) l) (hn : n = l.length) : ∀ j (hj : j < l.length), w.cell? ⟨g, j, none⟩ = some (.string l[j]) := by
  intro j hj
  subst hn
  have := World.ownsRow.cellAt h.2 j (by omega)
  rw [this]
  simp [hj]

/-- The decimal digit. -/
def decB (d : Nat) : UInt8 := UInt8.ofNat (48 + d)
/-- The decimal digits of n, none of 0. -/
def decF : Nat → Nat → List UInt8
  | 0, _ => []
  | f + 1, n => if n = 0 then [] else decF f (n / 10) ++ [decB (n % 10)]
theorem decF_zero (f : Nat) : decF f 0 = [] := by cases f <;> simp [decF]
theorem decF_step (f n : Nat) (h : 0 < n) : decF (f + 1) n = decF f (n / 10) ++ [decB (n % 10)] := by simp [decF]; omega
/-- The mark of number n. -/
def mkT (n : Nat) : ByteArray := ⟨(109 :: decF 20 n).toArray⟩
theorem dec_more {n m f : Nat} {x : ByteArray} (hm : m < 10 ^ f) (h0 : 0 < m) (h : decF 20 n = decF f m ++ x.data.toList) : ∃ f', m / 10 < 10 ^ f' ∧ decF 20 n = decF f' (m / 10) ++ (decB (m % 10) :: x.data.toList) := by
  cases f with
  | zero => simp at hm; omega
  | succ f =>
    refine ⟨f, ?_, ?_⟩
    · rw [Nat.pow_succ] at hm
      exact Nat.div_lt_of_lt_mul (by rw [Nat.mul_comm]; exact hm)
    · rw [h, decF_step f m h0]
      simp
theorem dec_byte (m : Nat) : (48 + (m : Int) % 10) = ((decB (m % 10)).toNat : Int) := by
  have h : (decB (m % 10)).toNat = 48 + m % 10 := by
    unfold decB
    rw [UInt8.toNat_ofNat']
    exact Nat.mod_eq_of_lt (by omega)
  rw [h]
  omega
theorem byte_text (w : World) (n : Int) (c : UInt8) (h : n = (c.toNat : Int)) : (convert 76 9 (.slice (some ⟨w.heap.size, 0, none⟩) 1 1)).run Tryd.prog (w.alloc (.cells #[.int .u8 n] 5)) = .ok (.string ⟨#[c]⟩) (w.alloc (.cells #[.int .u8 n] 5)) := by
  subst h
  refine run_convert_bytes_back (P := Tryd.prog) _ 76 9 5 ⟨w.heap.size, 0, none⟩ 1 [c] Tryd.underlying76 Tryd.underlying5 Tryd.underlying9 (fun q hq => ?_)
  have e : q = 0 := by simp at hq; exact hq
  subst e
  show (w.alloc (.cells #[.int .u8 (c.toNat : Int)] 5)).cell? ⟨w.heap.size, 0, none⟩ = _
  rw [World.cell?_alloc_mark]
  rfl
theorem cat_cons (c : UInt8) (x : ByteArray) : ((⟨#[c]⟩ : ByteArray) ++ x).data.toList = c :: x.data.toList := by
  rw [ByteArray.data_append, Array.toList_append]; rfl
theorem size_cat (c : UInt8) (x : ByteArray) : ((⟨#[c]⟩ : ByteArray) ++ x).size = x.size + 1 := by
  rw [ByteArray.size_append]
  show 1 + x.size = x.size + 1
  omega
theorem mkT_is {n : Nat} {x : ByteArray} (h : decF 20 n = x.data.toList) : (⟨#[109]⟩ : ByteArray) ++ x = mkT n := by
  apply ext_bytes
  rw [cat_cons, ← h]
  rfl
theorem ret_text {a b : ByteArray} (h : a = b) : Ending.returned (.string a) = .returned (.string b) := by rw [h]

/-- A text stored into an owned slice. -/
theorem OwnsS.put {w : World} {B g cap : Nat} {l : List ByteArray} {n : Nat} (hn : n = l.length) (h : OwnsS w B (.slice (some ⟨g, 0, none⟩) n cap) l) (k : Nat) (c : ByteArray) : OwnsS (w.setCell ⟨g, k, none⟩ (.string c)) B (.slice (some ⟨g, 0, none⟩) n cap) (l.set k c) := by
  subst hn
  obtain ⟨⟨g', cap', hv, hb, hg⟩, ho⟩ := h
  have h2 := (ho.stored k (.string c)).1
  simp only [Value.slice.injEq, Option.some.injEq, Addr.mk.injEq, and_true, true_and] at hv
  obtain ⟨rfl, rfl⟩ := hv
  refine ⟨⟨g, cap, by rw [List.length_set], hb, by simpa [World.setCell] using hg⟩, ?_⟩
  rw [List.length_set, List.map_set]
  exact h2
theorem OwnsS.free {w : World} {B g n cap : Nat} {l : List ByteArray} (hn : n = l.length) (h : OwnsS w B (.slice (some ⟨g, 0, none⟩) n cap) l) (j : Nat) : w.frozen? ⟨g, j, none⟩ = false := by
  subst hn
  exact h.2.frozenAt j

/-- What holds of every block but g. -/
def But (g : Nat) (w w' : World) : Prop := w'.os = w.os ∧ w'.tape = w.tape ∧ w'.output = w.output ∧ w.heap.size ≤ w'.heap.size ∧ ∀ k, k < w.heap.size → k ≠ g → w'.heap[k]? = w.heap[k]?
theorem But.refl (g : Nat) (w : World) : But g w w := ⟨rfl, rfl, rfl, Nat.le_refl _, fun _ _ _ => rfl⟩
theorem But.below {g : Nat} {a w w' : World} (h : But g a w) (hb : Below w.heap.size w w') : But g a w' :=
  ⟨hb.os.trans h.1, hb.tape.trans h.2.1, hb.output.trans h.2.2.1, Nat.le_trans h.2.2.2.1 hb.size, fun k hk hg => (hb.block k (by have := h.2.2.2.1; omega)).trans (h.2.2.2.2 k hk hg)⟩
theorem But.put {g : Nat} {a w : World} (h : But g a w) (k : Nat) (v : Value) : But g a (w.setCell ⟨g, k, none⟩ v) :=
  ⟨h.1, h.2.1, h.2.2.1, by simpa [World.setCell] using h.2.2.2.1, fun j hj hg => (Below.heap_setCell _ _ _ _ hg).trans (h.2.2.2.2 j hj hg)⟩

end Go.Proofs.YtkaogmdhjcgcdaaDoor
namespace Go.Proofs.YtkaogmdhjcgcdaaDoor
open Go.RowKit Go.Sort

/-- The value v has the fields l, in a block from B on. -/
def HasF (w : World) (B : Nat) (v : Value) (l : List Fl) : Prop :=
  (v = .slice none 0 0 ∧ l = []) ∨ ∃ g cap cur, v = .slice (some ⟨g, 0, none⟩) l.length cap ∧ B ≤ g ∧ w.heap[g]? = some (.cells cur 56 (0, 0)) ∧ l.length ≤ cap ∧ cap ≤ maxLen ∧ cap * 2 ≤ cur.size ∧ cur.toList.take (l.length * 2) = cellsF l
theorem OwnsF.has {w : World} {B : Nat} {v : Value} {l : List Fl} (h : OwnsF w B v l) : HasF w B v l := by
  rcases h.2 with ⟨h0, h1⟩ | ⟨g, cap, cur, hv, hb, hg, hc, hm, hz, ht⟩
  · exact .inl ⟨h0, List.eq_nil_of_length_eq_zero h1⟩
  · exact .inr ⟨g, cap, cur, hv, hb, hg, hc, hm, by omega, ht⟩
/-- .. also where the room behind it is cut off. -/
theorem HasF.cut {w : World} {B g cap : Nat} {n : Nat} {l : List Fl} (h : HasF w B (.slice (some ⟨g, 0, none⟩) n cap) l) (hn : n = l.length) : HasF w B (.slice (some ⟨g, 0, none⟩) n n) l := by
  subst hn
  rcases h with ⟨h0, _⟩ | ⟨g', cap', cur, hv, hb, hg, hc, hm, hz, ht⟩
  · cases h0
  · simp only [Value.slice.injEq, Option.some.injEq, Addr.mk.injEq, and_true, true_and] at hv
    obtain ⟨rfl, rfl⟩ := hv
    exact .inr ⟨g, l.length, cur, rfl, hb, hg, Nat.le_refl _, Nat.le_trans hc hm, by omega, ht⟩
theorem HasF.kept {w w' : World} {B : Nat} {v : Value} {l : List Fl} (h : HasF w B v l) (hb : Below w.heap.size w w') : HasF w' B v l := by
  rcases h with h0 | ⟨g, cap, cur, hv, hbg, hg, rest⟩
  · exact .inl h0
  · exact .inr ⟨g, cap, cur, hv, hbg, by rw [hb.block g (Array.getElem?_eq_some_iff.1 hg).1]; exact hg, rest⟩
theorem HasF.grown {w w' : World} {B : Nat} {v : Value} {l : List Fl} {r : Option Nat} (h : HasF w B v l) (hg : w.grownBy w' r) (hne : ∀ k, v.ownBlock = some k → some k ≠ r) : HasF w' B v l := by
  rcases h with h0 | ⟨g, cap, cur, hv, hbg, hh, rest⟩
  · exact .inl h0
  · exact .inr ⟨g, cap, cur, hv, hbg, by rw [hg.block g (Array.getElem?_eq_some_iff.1 hh).1 (hne g (by rw [hv]; rfl))]; exact hh, rest⟩
theorem HasF.low {w : World} {B B' : Nat} {v : Value} {l : List Fl} (h : HasF w B v l) (hB : B' ≤ B) : HasF w B' v l := by
  rcases h with h0 | ⟨g, cap, cur, hv, hb, rest⟩
  · exact .inl h0
  · exact .inr ⟨g, cap, cur, hv, by omega, rest⟩
theorem HasF.from {w : World} {B : Nat} {v : Value} {l : List Fl} (h : HasF w B v l) : ∀ k, v.ownBlock = some k → B ≤ k := by
  intro k hk
  rcases h with ⟨rfl, _⟩ | ⟨g, cap, cur, rfl, hb, _⟩
  · simp [Value.ownBlock] at hk
  · simp [Value.ownBlock] at hk; omega
theorem HasF.under {w : World} {B : Nat} {v : Value} {l : List Fl} (h : HasF w B v l) : ∀ k, v.ownBlock = some k → k < w.heap.size := by
  intro k hk
  rcases h with ⟨rfl, _⟩ | ⟨g, cap, cur, rfl, hb, hg, _⟩
  · simp [Value.ownBlock] at hk
  · simp [Value.ownBlock] at hk; subst hk; exact (Array.getElem?_eq_some_iff.1 hg).1
theorem HasF.form {w : World} {B : Nat} {v : Value} {l : List Fl} (h : HasF w B v l) : ∃ a cap, v = .slice a l.length cap ∧ l.length ≤ cap ∧ cap ≤ maxLen ∧ (0 < l.length → ∃ g, a = some ⟨g, 0, none⟩) := by
  rcases h with ⟨rfl, rfl⟩ | ⟨g, cap, cur, rfl, hb, hg, hc, hm, _⟩
  · exact ⟨none, 0, rfl, Nat.le_refl _, Nat.zero_le _, fun h => absurd h (by simp)⟩
  · exact ⟨_, cap, rfl, hc, hm, fun _ => ⟨g, rfl⟩⟩
theorem HasF.at {w : World} {B g n cap : Nat} {l : List Fl} (h : HasF w B (.slice (some ⟨g, 0, none⟩) n cap) l) (j : Nat) (hj : j < l.length) : w.cell? ⟨g, j * 2, none⟩ = some (.string l[j].1) ∧ w.cell? ⟨g, j * 2 + 1, none⟩ = some (.string l[j].2) := by
  rcases h with ⟨h0, _⟩ | ⟨g', cap', cur, hv, hb, hg, hc, hm, hz, ht⟩
  · cases h0
  · simp only [Value.slice.injEq, Option.some.injEq, Addr.mk.injEq, and_true] at hv
    obtain ⟨rfl, _⟩ := hv
    obtain ⟨c1, c2⟩ := cellsF_at l j hj
    rw [← ht, List.getElem?_take_of_lt (by omega)] at c1 c2
    rw [cell_of_row w g _ cur _ _ hg, cell_of_row w g _ cur _ _ hg]
    exact ⟨by simpa using c1, by simpa using c2⟩
theorem HasF.free {w : World} {B g n cap : Nat} {l : List Fl} (h : HasF w B (.slice (some ⟨g, 0, none⟩) n cap) l) (j : Nat) : w.frozen? ⟨g, j, none⟩ = false := by
  rcases h with ⟨h0, _⟩ | ⟨g', cap', cur, hv, hb, hg, _⟩
  · cases h0
  · simp only [Value.slice.injEq, Option.some.injEq, Addr.mk.injEq, and_true] at hv
    obtain ⟨rfl, _⟩ := hv
    exact frozen_of_row w g j cur _ hg
theorem HasF.fls {w : World} {B : Nat} {v : Value} {l : List Fl} (h : HasF w B v l) : Fls w v l := by
  obtain ⟨a, cap, rfl, h1, h2, h3⟩ := h.form
  refine ⟨a, cap, rfl, h1, h2, fun h0 => ?_⟩
  obtain ⟨g, rfl⟩ := h3 h0
  exact ⟨g, 0, rfl, h.under g rfl, fun j hj => by rw [Nat.zero_add]; exact h.at j hj⟩
theorem HasF.put1 {w : World} {B g cap n : Nat} {l : List Fl} (h : HasF w B (.slice (some ⟨g, 0, none⟩) n cap) l) {k : Nat} (hk : k < l.length) (c : ByteArray) : HasF (w.setCell ⟨g, k * 2, none⟩ (.string c)) B (.slice (some ⟨g, 0, none⟩) n cap) (l.set k (c, l[k].2)) := by
  rcases h with ⟨h0, _⟩ | ⟨g', cap', cur, hv, hb, hg, hc, hm, hz, ht⟩
  · cases h0
  · simp only [Value.slice.injEq, Option.some.injEq, Addr.mk.injEq, and_true] at hv
    obtain ⟨rfl, rfl, rfl⟩ := hv
    refine .inr ⟨g, cap, cur.setIfInBounds (k * 2) (.string c), by rw [List.length_set], hb, heap_setCell_same w g _ cur _ _ hg, by rw [List.length_set]; exact hc, hm, by simpa using hz, ?_⟩
    rw [List.length_set, ← cellsF_set1 l c k hk, Array.toList_setIfInBounds, ← ht, List.take_set]
theorem HasF.put2 {w : World} {B g cap n : Nat} {l : List Fl} (h : HasF w B (.slice (some ⟨g, 0, none⟩) n cap) l) {k : Nat} (hk : k < l.length) (c : ByteArray) : HasF (w.setCell ⟨g, k * 2 + 1, none⟩ (.string c)) B (.slice (some ⟨g, 0, none⟩) n cap) (l.set k (l[k].1, c)) := by
  rcases h with ⟨h0, _⟩ | ⟨g', cap', cur, hv, hb, hg, hc, hm, hz, ht⟩
  · cases h0
  · simp only [Value.slice.injEq, Option.some.injEq, Addr.mk.injEq, and_true] at hv
    obtain ⟨rfl, rfl, rfl⟩ := hv
    refine .inr ⟨g, cap, cur.setIfInBounds (k * 2 + 1) (.string c), by rw [List.length_set], hb, heap_setCell_same w g _ cur _ _ hg, by rw [List.length_set]; exact hc, hm, by simpa using hz, ?_⟩
    rw [List.length_set, ← cellsF_set2 l c k hk, Array.toList_setIfInBounds, ← ht, List.take_set]

/-! ### Marks -/
set_option maxHeartbeats 400000 in
theorem markTextG (n : Nat) (h1 : 1 ≤ n) (h2 : n ≤ 100000000) (w : World) :
    Calls Tryd.prog 53 #[.int .i64 n] w fun e w' => e = .returned (.string (mkT n)) ∧ Grew w w' := by
  have hbound : n < 10 ^ 20 := by omega
  have HB : Hid (n < 10 ^ 20) := hbound
  clear hbound
  go_enter Tryd.func53, Tryd.ntmps53
  go_wp2
  go_loopw [0, 3] (fun a b wr => ∃ (m f : Nat) (x : ByteArray), a = .int .i64 m ∧ b = .string x ∧ m ≤ 100000000 ∧ x.size + m ≤ 100000000 ∧ Grew w wr ∧ Hid (m < 10 ^ f) ∧ Hid (decF 20 n = decF f m ++ x.data.toList)) (fun a _ _ => (intOf a).toNat)
  case atStart => exact ⟨n, 20, ⟨#[]⟩, rfl, rfl, h2, by show 0 + n ≤ _; omega, Grew.refl _, HB, by show decF 20 n = decF 20 n ++ []; rw [List.append_nil]⟩
  case round =>
    obtain ⟨m, f, x, rfl, rfl, hm, hxm, hb, hmf, hx⟩ := hrel
    by_cases h0 : 0 < m
    · obtain ⟨f', g1, g2⟩ := dec_more hmf.out h0 hx.out
      have HM : Hid (m / 10 < 10 ^ f') := g1
      have HX : Hid (decF 20 n = decF f' (m / 10) ++ (decB (m % 10) :: x.data.toList)) := g2
      clear g1 g2
      have hback := byte_text wr (48 + (m : Int) % 10) (decB (m % 10)) (dec_byte m)
      go_wp2
      go_roundw
      case rel => exact ⟨m / 10, f', _, by go_num, rfl, by omega, by rw [size_cat]; omega, hb.alloc _, HM, by rw [cat_cons]; exact HX⟩
      case measure => simp [intOf]; omega
    · obtain rfl : m = 0 := by omega
      have HX : Hid (decF 20 n = x.data.toList) := by show _ = _; rw [hx.out, decF_zero]; rfl
      go_wp2
      go_ret
      exact ⟨ret_text (mkT_is HX.out), hb⟩
end Go.Proofs.YtkaogmdhjcgcdaaDoor
namespace Go.Proofs.YtkaogmdhjcgcdaaDoor
open Go.RowKit Go.Sort

theorem grown_put {a w : World} {g : Nat} (h : a.grownBy w (some g)) (j : Nat) (v : Value) : a.grownBy (w.setCell ⟨g, j, none⟩ v) (some g) :=
  ⟨h.os, h.tape, h.output, by simpa [World.setCell] using h.size, fun k hk hne => (Below.heap_setCell _ _ _ _ (fun e => hne (by rw [e]))).trans (h.block k hk hne)⟩
theorem grown_below {a w w' : World} {r : Option Nat} (h : a.grownBy w r) (hb : Below w.heap.size w w') : a.grownBy w' r :=
  ⟨hb.os.trans h.os, hb.tape.trans h.tape, hb.output.trans h.output, Nat.le_trans h.size hb.size, fun k hk hne => (hb.block k (Nat.lt_of_lt_of_le hk h.size)).trans (h.block k hk hne)⟩
theorem grown_self (w : World) (r : Option Nat) : w.grownBy w r := ⟨rfl, rfl, rfl, Nat.le_refl _, fun _ _ _ => rfl⟩

end Go.Proofs.YtkaogmdhjcgcdaaDoor

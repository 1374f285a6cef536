/-
  A slice of fields that came in, opened.
  The contracts of the specification's line and of the program's field of a line.
  The contract of the program's ReadFields.
-/
import Derived.Test.YteibacmohplblaaGreatDoorG02
import Derived.Deep.SlicePairs
import Derived.ChangeArms
import Derived.Lib.LaidU8
import Derived.Test.YteibacmohplblaaGreatDoorG12
import Derived.Test.YteibacmohplblaaGreatDoorG17
import Derived.Test.YteibacmohplblaaGreatDoorG14
import Derived.Test.YteibacmohplblaaGreatDoorShelfC
namespace Go.Proofs.YteibacmohplblaaGreatDoor
open Go.RowKit Go.ChangeShapes Go.WideShapes

theorem cell_lt {w : World} {b o : Nat} {v : Value} (h : w.cell? ⟨b, o, none⟩ = some v) : b < w.heap.size := by
  cases e : w.heap[b]? with
  | none => simp [World.cell?, e] at h
  | some x => exact (Array.getElem?_eq_some_iff.1 e).1
def strOf : Value → ByteArray
  | .string s => s
  | _ => ⟨#[]⟩
end Go.Proofs.YteibacmohplblaaGreatDoor
namespace Go.Proofs.YteibacmohplblaaGreatDoor
open Go.RowKit Go.Sort

set_option maxHeartbeats 1000000 in
theorem specLine (s : ByteArray) (k : Nat) (w : World) (hk : k ≤ s.size) (hs : s.size ≤ 2000000) :
    Calls Tryz.prog 60 #[.string s, .int .i64 k] w fun e w' => e = .returned (lineE s (lnS (s.data.toList.drop k))) ∧ w = w' := by
  go_enter Tryz.func60, Tryz.ntmps60
  go_wp2
  go_loopw [7] (fun i wr => ∃ j : Nat, k ≤ j ∧ j ≤ s.size ∧ i = .int .i64 j ∧ Hid (LnAt s k j) ∧ wr = w) (fun i _ => s.size - (intOf i).toNat)
  case atStart => exact ⟨k, Nat.le_refl _, hk, rfl, LnAt.start s k, rfl⟩
  case round =>
    obtain ⟨j, hkj, hj, rfl, hat, rfl⟩ := hrel
    by_cases hlt : j < s.size
    · by_cases h10 : (s[j].toNat : Int) = 10
      · have HN : Hid (lnS (s.data.toList.drop k) = none) := hat.out.ten hlt (byte_is h10)
        have hq := ieq_yes h10
        clear h10
        go_wp2
        go_ret3
        exact ⟨lineE_none HN.out, rfl⟩
      · have hq := ieq_no h10
        by_cases h13 : (s[j].toNat : Int) = 13
        · have hq3 := ieq_yes h13
          by_cases hj1 : j + 1 < s.size
          · by_cases hn : (s[j + 1].toNat : Int) = 10
            · have HN : Hid (lnS (s.data.toList.drop k) = some (cutL s.data.toList k j, s.data.toList.drop (j + 2))) := hat.out.found hj1 (byte_is h13) (byte_is hn)
              have hqn := ieq_yes hn
              clear h10 h13 hn
              go_wp2
              go_ret3
              exact ⟨lineE_some HN.out hj1, rfl⟩
            · have HN : Hid (lnS (s.data.toList.drop k) = none) := hat.out.lone hlt (byte_is h13) (fun _ e => hn (by rw [e]; rfl))
              have hqn := ieq_no hn
              clear h10 h13 hn
              go_wp2
              go_ret3
              exact ⟨lineE_none HN.out, rfl⟩
          · have HN : Hid (lnS (s.data.toList.drop k) = none) := hat.out.lone hlt (byte_is h13) (fun h => absurd h hj1)
            have hd : decide ((j : Int) + 1 < (s.size : Int)) = false := decide_eq_false (by omega)
            clear h10 h13
            go_wp2
            go_ret3
            exact ⟨lineE_none HN.out, rfl⟩
        · have hq3 := ieq_no h13
          have HN : Hid (LnAt s k (j + 1)) := hat.out.next hlt hkj (fun e => h13 (by rw [e]; rfl)) (fun e => h10 (by rw [e]; rfl))
          clear h10 h13
          go_wp2
          go_roundw
          case rel => exact ⟨j + 1, by omega, by omega, by go_num, HN, trivial⟩
          case measure => simp [intOf]; omega
    · have HN : Hid (lnS (s.data.toList.drop k) = none) := hat.out.done hlt
      go_wp2
      go_ret3
      exact ⟨lineE_none HN.out, rfl⟩

/-- What the program's field of a line answers. -/
def rdFE : Option Fl → Value
  | none => .tuple #[.agg #[.string ⟨#[]⟩, .string ⟨#[]⟩], .bool false]
  | some f => .tuple #[.agg #[.string f.1, .string f.2], .bool true]
theorem box_cells {w : World} {b : Nat} {p q : ByteArray} (h : w.heap[b]? = some (.cells #[.string p, .string q] 81)) : w.cell? ⟨b, 0, none⟩ = some (.string p) ∧ w.cell? ⟨b, 1, none⟩ = some (.string q) ∧ w.frozen? ⟨b, 0, none⟩ = false ∧ w.frozen? ⟨b, 1, none⟩ = false :=
  ⟨by rw [cell_of_row w _ 0 _ _ _ h]; rfl, by rw [cell_of_row w _ 1 _ _ _ h]; rfl, frozen_of_row w b 0 _ _ h, frozen_of_row w b 1 _ _ h⟩
theorem below_block {w w' : World} {b : Nat} {o : Obj} (h : w.heap[b]? = some o) (hb : Below w.heap.size w w') : w'.heap[b]? = some o := by
  rw [hb.block b (Array.getElem?_eq_some_iff.1 h).1]; exact h
theorem drewN_below (w : World) (n : Nat) : Below w.heap.size w (w.drewN n) := ⟨rfl, rfl, rfl, Nat.le_refl _, fun _ _ => rfl⟩
theorem len_app {x a b : List UInt8} (h : colL x = some (a, b)) : a.length + b.length + 1 = x.length := by
  rw [(colL_is h).1]; simp; omega
theorem txt_size (l : List UInt8) : (⟨l.toArray⟩ : ByteArray).size = l.length := by show l.toArray.size = _; simp

set_option maxHeartbeats 2000000 in
theorem implRdF (x : ByteArray) (m : Int) (w : World) (hm : w.cell? ⟨1, 0, none⟩ = some (.int .i64 m)) (hx : x.size ≤ 1048576) :
    Calls Tryz.prog 124 #[.string x] w fun e w' => e = .returned (rdFE (rdF x.data.toList)) ∧ Below w.heap.size w w' := by
  have b0 : (w.alloc (.cells #[.string ⟨#[]⟩, .string ⟨#[]⟩] 81)).heap[w.heap.size]? = some (.cells #[.string ⟨#[]⟩, .string ⟨#[]⟩] 81) := heap_alloc_new w _
  have bl := box_lt w (.cells #[.string ⟨#[]⟩, .string ⟨#[]⟩] 81)
  have hba := (Below.refl w.heap.size w).alloc (Nat.le_refl _) (.cells #[.string ⟨#[]⟩, .string ⟨#[]⟩] 81)
  have hm0 := ((Below.refl w.heap.size w).alloc (Nat.le_refl _) (.cells #[.string ⟨#[]⟩, .string ⟨#[]⟩] 81)).cell (p := ⟨1, 0, none⟩) (cell_lt hm) |>.trans hm
  have hxl : x.data.toList.length = x.size := by simp
  have hcut := Tryz.strings_Cut x ⟨#[58]⟩ m _ (by omega) hm0
  rw [show (⟨#[58]⟩ : ByteArray).data.toList = [58] from rfl, cut_col] at hcut
  cases hc : colL x.data.toList with
  | none =>
    rw [hc] at hcut
    rw [rdF_col hc]
    simp only [text_of] at hcut
    go_enter Tryz.func124, Tryz.ntmps124
    go_wp2_with fail
    refine hcut.mono ?_
    rintro e w1 ⟨rfl, q, rfl⟩
    go_wp2_with fail
    refine (clone x _ hx).mono ?_
    rintro e w2 ⟨rfl, hb2⟩
    go_wp2_with fail
    refine (implTrim ⟨#[]⟩ _ (by decide)).mono ?_
    rintro e w3 ⟨rfl, hb3⟩
    have d3 := below_block (below_block (show ((w.alloc (.cells #[.string ⟨#[]⟩, .string ⟨#[]⟩] 81)).drewN q).heap[w.heap.size]? = _ from b0) hb2) hb3
    have hb03 : Below w.heap.size w w3 := (hba.trans ((show Below (w.alloc (.cells #[.string ⟨#[]⟩, .string ⟨#[]⟩] 81)).heap.size (w.alloc (.cells #[.string ⟨#[]⟩, .string ⟨#[]⟩] 81)) w2 from ⟨hb2.os, hb2.tape, hb2.output, hb2.size, hb2.block⟩).mono (Nat.le_of_lt bl))).trans (hb3.mono (Nat.le_trans (Nat.le_of_lt bl) hb2.size))
    have d4 := below_block d3 ((Below.refl w3.heap.size w3).alloc (Nat.le_refl _) (.cells #[.string x, .string (trimB ⟨#[]⟩)] 81))
    have hb04 := hb03.alloc hb03.size (.cells #[.string x, .string (trimB ⟨#[]⟩)] 81)
    obtain ⟨c0, c1, f0, f1⟩ := box_cells d4
    clear b0 d3 d4 hb2 hb3 hb03 hcut hba
    go_wp2
    refine bodyPost_ret (v := .tuple #[.agg #[.string ⟨#[]⟩, .string ⟨#[]⟩], .bool false]) (by simp [results, Tryz.results124, go_sem, c0, c1]) rfl ⟨rfl, (hb04.setCell (Nat.le_refl _) _).setCell (Nat.le_refl _) _⟩
  | some p =>
    obtain ⟨a, b⟩ := p
    rw [hc] at hcut
    have hlen := len_app hc
    have za := txt_size a
    have zb := txt_size b
    have zt := trimB_size ⟨b.toArray⟩
    cases hok : fldOk (fldT a b) with
    | false =>
      rw [rdF_no hc hok]
      unfold fldT at hok
      generalize (⟨a.toArray⟩ : ByteArray) = n0 at hcut hok za
      generalize (⟨b.toArray⟩ : ByteArray) = v0 at hcut hok zb zt
      go_enter Tryz.func124, Tryz.ntmps124
      go_wp2_with fail
      refine hcut.mono ?_
      rintro e w1 ⟨rfl, q, rfl⟩
      go_wp2_with fail
      refine (clone n0 _ (by omega)).mono ?_
      rintro e w2 ⟨rfl, hb2⟩
      go_wp2_with fail
      refine (implTrim v0 _ (by omega)).mono ?_
      rintro e w3 ⟨rfl, hb3⟩
      have d3 := below_block (below_block (show ((w.alloc (.cells #[.string ⟨#[]⟩, .string ⟨#[]⟩] 81)).drewN q).heap[w.heap.size]? = _ from b0) hb2) hb3
      have hb03 : Below w.heap.size w w3 := (hba.trans ((show Below (w.alloc (.cells #[.string ⟨#[]⟩, .string ⟨#[]⟩] 81)).heap.size (w.alloc (.cells #[.string ⟨#[]⟩, .string ⟨#[]⟩] 81)) w2 from ⟨hb2.os, hb2.tape, hb2.output, hb2.size, hb2.block⟩).mono (Nat.le_of_lt bl))).trans (hb3.mono (Nat.le_trans (Nat.le_of_lt bl) hb2.size))
      have d3a := below_block d3 ((Below.refl w3.heap.size w3).alloc (Nat.le_refl _) (.cells #[.string n0, .string (trimB v0)] 81))
      have d3b : (w3.alloc (.cells #[.string n0, .string (trimB v0)] 81)).heap[w3.heap.size]? = some (.cells #[.string n0, .string (trimB v0)] 81) := heap_alloc_new w3 _
      have hb03a := hb03.alloc hb03.size (.cells #[.string n0, .string (trimB v0)] 81)
      clear b0 d3 hb2 hb3 hb03 hcut hba
      go_wp2_with (go_at_call 109; refine (implFld (n0, trimB v0) _ (show n0.size ≤ 1048576 by omega) (show (trimB v0).size ≤ 1048576 by omega)).mono ?_; rw [hok]; rintro e w4 ⟨rfl, hb4⟩; have d4 := below_block d3a hb4; have d4b := below_block d3b hb4; have hb04 := hb03a.trans (hb4.mono hb03a.size); obtain ⟨c0, c1, f0, f1⟩ := box_cells d4; obtain ⟨e0, e1, _, _⟩ := box_cells d4b; clear d3a d3b d4 d4b hb4)
      refine bodyPost_ret (v := .tuple #[.agg #[.string ⟨#[]⟩, .string ⟨#[]⟩], .bool false]) (by simp [results, Tryz.results124, go_sem, c0, c1]) rfl ⟨rfl, (hb04.setCell (Nat.le_refl _) _).setCell (Nat.le_refl _) _⟩
    | true =>
      rw [rdF_yes hc hok]
      unfold fldT at hok ⊢
      generalize (⟨a.toArray⟩ : ByteArray) = n0 at hcut hok za ⊢
      generalize (⟨b.toArray⟩ : ByteArray) = v0 at hcut hok zb zt ⊢
      go_enter Tryz.func124, Tryz.ntmps124
      go_wp2_with fail
      refine hcut.mono ?_
      rintro e w1 ⟨rfl, q, rfl⟩
      go_wp2_with fail
      refine (clone n0 _ (by omega)).mono ?_
      rintro e w2 ⟨rfl, hb2⟩
      go_wp2_with fail
      refine (implTrim v0 _ (by omega)).mono ?_
      rintro e w3 ⟨rfl, hb3⟩
      have d3 := below_block (below_block (show ((w.alloc (.cells #[.string ⟨#[]⟩, .string ⟨#[]⟩] 81)).drewN q).heap[w.heap.size]? = _ from b0) hb2) hb3
      have hb03 : Below w.heap.size w w3 := (hba.trans ((show Below (w.alloc (.cells #[.string ⟨#[]⟩, .string ⟨#[]⟩] 81)).heap.size (w.alloc (.cells #[.string ⟨#[]⟩, .string ⟨#[]⟩] 81)) w2 from ⟨hb2.os, hb2.tape, hb2.output, hb2.size, hb2.block⟩).mono (Nat.le_of_lt bl))).trans (hb3.mono (Nat.le_trans (Nat.le_of_lt bl) hb2.size))
      have d3a := below_block d3 ((Below.refl w3.heap.size w3).alloc (Nat.le_refl _) (.cells #[.string n0, .string (trimB v0)] 81))
      have d3b : (w3.alloc (.cells #[.string n0, .string (trimB v0)] 81)).heap[w3.heap.size]? = some (.cells #[.string n0, .string (trimB v0)] 81) := heap_alloc_new w3 _
      have hb03a := hb03.alloc hb03.size (.cells #[.string n0, .string (trimB v0)] 81)
      clear b0 d3 hb2 hb3 hb03 hcut hba
      go_wp2_with (go_at_call 109; refine (implFld (n0, trimB v0) _ (show n0.size ≤ 1048576 by omega) (show (trimB v0).size ≤ 1048576 by omega)).mono ?_; rw [hok]; rintro e w4 ⟨rfl, hb4⟩; have d4 := below_block d3a hb4; have d4b := below_block d3b hb4; have hb04 := hb03a.trans (hb4.mono hb03a.size); obtain ⟨c0, c1, f0, f1⟩ := box_cells d4; obtain ⟨e0, e1, _, _⟩ := box_cells d4b; clear d3a d3b d4 d4b hb4)
      refine bodyPost_ret (v := .tuple #[.agg #[.string n0, .string (trimB v0)], .bool true]) (by simp [results, Tryz.results124, go_sem, c0, c1]) rfl ⟨rfl, (hb04.setCell (Nat.le_refl _) _).setCell (Nat.le_refl _) _⟩
end Go.Proofs.YteibacmohplblaaGreatDoor
namespace Go.Proofs.YteibacmohplblaaGreatDoor
open Go.RowKit Go.Sort

/-- What ReadFields answers: the fields, how many bytes, whether it could be read. -/
def rdL : Option (List Fl × List UInt8) → List Fl
  | none => []
  | some p => p.1
def rdI (s : ByteArray) : Option (List Fl × List UInt8) → Int
  | none => 0
  | some p => (s.size : Int) - (p.2.length : Int)
def GivesR (w w' : World) (e : Ending) (s : ByteArray) (o : Option (List Fl × List UInt8)) : Prop := ∃ u, e = .returned (.tuple #[u, .int .i64 (rdI s o), .bool o.isSome]) ∧ HasF w' w.heap.size u (rdL o) ∧ Below w.heap.size w w'
theorem givesR_none {w w1 : World} {s : ByteArray} {o : Option (List Fl × List UInt8)} {k : Nat} (h : o = none) (hb : Below w.heap.size w w1) (hk : k = w1.heap.size) : GivesR w (w1.alloc (.cells #[] 81)) (.returned (.tuple #[.slice (some ⟨k, 0, none⟩) 0 0, .int .i64 0, .bool false])) s o := by
  subst h hk
  exact ⟨_, rfl, ((OwnsF.born w1).low hb.size).has, hb.alloc hb.size _⟩
theorem givesR_some {w w1 : World} {s : ByteArray} {o : Option (List Fl × List UInt8)} {out : List Fl} {r : List UInt8} {u : Value} {N : Int} (h : o = some (out, r)) (hN : N = (s.size : Int) - (r.length : Int)) (hF : HasF w1 w.heap.size u out) (hb : Below w.heap.size w w1) : GivesR w w1 (.returned (.tuple #[u, .int .i64 N, .bool true])) s o := by
  subst h hN
  exact ⟨_, rfl, hF, hb⟩
theorem wpList_pushF' {ops : Array Oper} {rest : List Oper} {o : Oper} {a : Act} {Q : Exit → Act → World → Prop} (w : World) (hgd : o.guard = none) (s x : Operand)
    (ho : o.op = .call { callee := .builtin .append, args := #[s, x], argTypes := #[24, 24] }) (B b : Nat) (hb : b = w.heap.size) (v : Value) (l : List Fl) (f : Fl) (hs : a.eval s = v) (hown : OwnsF w B v l)
    (hx : a.eval x = .slice (some ⟨b, 0, none⟩) 1 1) (hlen : l.length ≤ 1000000000000) (hB : B ≤ w.heap.size)
    (h : ∀ v' w', OwnsF w' B v' (l ++ [f]) → w.grownBy w' v.ownBlock → wpList Tryz.prog ops Q rest (a.put o.dst v') w') :
    wpList Tryz.prog ops Q (o :: rest) a (w.alloc (.cells #[.string f.1, .string f.2] 81)) := by
  subst hb
  exact wpList_pushF w hgd s x ho B v l f hs hown hx hlen hB h
theorem full4 {x : ByteArray} (h : 0 < x.size) : x.toList.isEmpty = false := by
  rw [ByteArray.toList_eq]
  have h3 : x.data.toList.length = x.size := by simp
  cases e : x.data.toList with
  | nil => rw [e] at h3; simp at h3; omega
  | cons c r => rfl

set_option maxHeartbeats 2000000 in
theorem implRead (s : ByteArray) (m : Int) (w : World) (hm : w.cell? ⟨1, 0, none⟩ = some (.int .i64 m)) (hs : s.size ≤ 1048576) :
    Calls Tryz.prog 95 #[.string s] w fun e w' => GivesR w w' e s (rdA s.data.toList) := by
  have hsl := len_of s
  go_enter Tryz.func95, Tryz.ntmps95
  go_wp2
  go_loopw [5, 6] (fun u r wr => ∃ (n g c : Nat) (out : List Fl) (y : ByteArray), u = .slice (some ⟨g, 0, none⟩) out.length c ∧ r = .string y ∧ out.length ≤ c ∧ out.length + n = 30 ∧ y.size ≤ s.size ∧ OwnsF wr w.heap.size u out ∧ Hid (rdN (n + 1) out y.data.toList = rdA s.data.toList) ∧ Below w.heap.size w wr) (fun _ r _ => strLen r)
  case atStart => exact ⟨30, w.heap.size, 0, [], s, rfl, rfl, Nat.le_refl _, rfl, Nat.le_refl _, OwnsF.born w, rfl, (Below.refl _ _).alloc (Nat.le_refl _) _⟩
  case round =>
    obtain ⟨n, g, c, out, y, rfl, rfl, hc, hn, hy, hown, hrd, hb⟩ := hrel
    have hyl := len_of y
    have hmr := (hb.cell (p := ⟨1, 0, none⟩) (cell_lt hm)).trans hm
    have hcut := Tryz.strings_Cut y ⟨#[13, 10]⟩ m _ (by omega) hmr
    rw [show (⟨#[13, 10]⟩ : ByteArray).data.toList = [13, 10] from rfl, cut_ln] at hcut
    cases hl : lnC y.data.toList with
    | none =>
      rw [hl] at hcut
      have HN : Hid (rdA s.data.toList = none) := by show _ = _; rw [← hrd.out, rdN_none hl]
      go_wp2_with fail
      refine hcut.mono ?_
      rintro e w1 ⟨rfl, q, rfl⟩
      have hb1 := hb.trans ((drewN_below wr q).mono hb.size)
      go_wp2
      go_ret3
      exact givesR_none HN.out hb1 rfl
    | some p =>
      obtain ⟨x, r⟩ := p
      rw [hl] at hcut
      have hlen := congrArg List.length (lnC_length hl)
      simp only [List.length_append, List.length_cons, List.length_nil] at hlen
      have zr := txt_size r
      by_cases hx : x = []
      · subst hx
        have HN : Hid (rdA s.data.toList = some (out, r)) := by show _ = _; rw [← hrd.out, rdN_void hl]
        have hrm := fun w => implRoom g out.length c w hc
        go_wp2_with fail
        refine hcut.mono ?_
        rintro e w1 ⟨rfl, q, rfl⟩
        have hb1 := hb.trans ((drewN_below wr q).mono hb.size)
        go_wp2_with (go_at_call 123; refine (hrm _).mono ?_; rintro e w2 ⟨rfl, rfl⟩)
        go_ret3
        exact givesR_some HN.out (by omega) ((hown.drewN q).has.cut rfl) hb1
      · have hx0 : 0 < x.length := List.length_pos_iff.2 hx
        have zx := txt_size x
        have hrf := fun w hm => implRdF ⟨x.toArray⟩ m w hm (by omega)
        rw [show (⟨x.toArray⟩ : ByteArray).data.toList = x from by simp] at hrf
        have hne : 0 < (⟨x.toArray⟩ : ByteArray).size := by omega
        have hfull := full hne
        have hfe := full4 hne
        cases hf : rdF x with
        | none =>
          have HN : Hid (rdA s.data.toList = none) := by show _ = _; rw [← hrd.out, rdN_no hl hx hf]
          rw [hf] at hrf
          unfold rdFE at hrf
          generalize (⟨x.toArray⟩ : ByteArray) = t at hcut hrf hfull hfe
          clear hne
          go_wp2_with fail
          refine hcut.mono ?_
          rintro e w1 ⟨rfl, q, rfl⟩
          have hb1 := hb.trans ((drewN_below wr q).mono hb.size)
          go_wp2_with (go_at_call 124; refine (hrf (wr.drewN q) hmr).mono ?_; rintro e w2 ⟨rfl, hb2⟩; have hb02 := hb1.trans (hb2.mono hb1.size))
          have hb03 := hb02.alloc hb02.size (.cells #[.string ⟨#[]⟩, .string ⟨#[]⟩] 81)
          go_ret3
          exact givesR_none HN.out hb03 (by simp)
        | some f =>
          rw [hf] at hrf
          unfold rdFE at hrf
          generalize (⟨x.toArray⟩ : ByteArray) = t at hcut hrf hfull hfe
          clear hne
          by_cases h30 : 30 ≤ out.length
          · have HN : Hid (rdA s.data.toList = none) := by show _ = _; rw [← hrd.out, rdN_many hl hx h30]
            go_wp2_with fail
            refine hcut.mono ?_
            rintro e w1 ⟨rfl, q, rfl⟩
            have hb1 := hb.trans ((drewN_below wr q).mono hb.size)
            go_wp2_with (go_at_call 124; refine (hrf (wr.drewN q) hmr).mono ?_; rintro e w2 ⟨rfl, hb2⟩; have hb02 := hb1.trans (hb2.mono hb1.size))
            have hb03 := hb02.alloc hb02.size (.cells #[.string f.1, .string f.2] 81)
            go_ret3
            exact givesR_none HN.out hb03 (by simp)
          · obtain ⟨n', rfl⟩ : ∃ n', n = n' + 1 := ⟨n - 1, by omega⟩
            have HN : Hid (rdN (n' + 1) (out ++ [f]) r = rdA s.data.toList) := by show _ = _; rw [← hrd.out, rdN_more hl hx hf h30]
            go_wp2_with fail
            refine hcut.mono ?_
            rintro e w1 ⟨rfl, q, rfl⟩
            have hb1 := hb.trans ((drewN_below wr q).mono hb.size)
            go_wp2_with (first
              | (go_at_call 124; refine (hrf (wr.drewN q) hmr).mono ?_; rintro e w2 ⟨rfl, hb2⟩; have hb02 := hb1.trans (hb2.mono hb1.size); have ho2 := (hown.drewN q).kept hb2; have hb03 := hb02.alloc hb02.size (.cells #[.string f.1, .string f.2] 81); have ho3 := ho2.alloc (.cells #[.string f.1, .string f.2] 81))
              | (at_builtin; refine wpList_pushF' _ rfl (.tmp 46) (.tmp 48) rfl w.heap.size (w2.heap.size + 1) (by simp) _ _ f rfl ho3 rfl (by omega) hb03.size ?_; intro v4 w4 ho4 hg4))
            have hb04 := hb03.grown hg4 hb03.size (OwnsF.from ho3)
            obtain ⟨g4, c4, rfl, hc4, hm4⟩ := ho4.solid (by simp)
            clear hown ho2 ho3 hb hb1 hb2 hb02 hb03 hg4 hcut hrf
            go_roundw
            case rel => exact ⟨n', g4, c4, out ++ [f], ⟨r.toArray⟩, rfl, rfl, hc4, by simp; omega, by omega, ho4, by rw [show (⟨r.toArray⟩ : ByteArray).data.toList = r from by simp]; exact HN, hb04⟩
            case measure => show (⟨r.toArray⟩ : ByteArray).size < y.size; omega
end Go.Proofs.YteibacmohplblaaGreatDoor

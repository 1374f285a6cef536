/-
  The draws of owners.
  The draw of Moved.
-/
import Derived.Test.YtdbeoloonoodkaaDoorG35
namespace Go.Proofs.YtdbeoloonoodkaaDoor
open Go.RowKit Go.Sort Ow Rw
set_option linter.unusedVariables false
set_option linter.unusedSimpArgs false

theorem drawHs (sa : Option Addr) (sl sc : Nat) (w : World) (hc : Code8 w w.heap.size sa sl) (hl : sl ≤ 4096) :
    Calls Tryd.prog 15 #[.slice sa sl sc] w fun e w' => (∃ s : ByteArray, e = .returned (.string s) ∧ s.size ≤ 9) ∧ Below w.heap.size w w' := by
  have hN := l1New sa sl sc w hc hl
  clear hc
  go_enter Tryd.func15, Tryd.ntmps15
  go_wp2_with fail
  refine hN.mono ?_
  rintro e w1 ⟨rfl, hc1, hb1⟩
  have hD := l1DrawText w.heap.size sa sl sc ⟨#[97, 98, 58, 47, 48]⟩ 9 (by decide) (by decide) (by decide) w1 hc1
  have Z1 : Hid (w.heap.size < w1.heap.size) := hc1.2.2.1
  clear hc1 hN
  go_wp2_with fail
  refine hD.mono ?_
  rintro e w2 ⟨s, rfl, hs, hc2, hb2⟩
  have B2 : Hid (Below w.heap.size w w2) := hb1.trans (hb2.low (Nat.le_refl _) (Nat.le_of_lt Z1.out))
  clear hb2 hb1 hc2 hD
  go_wp2
  go_ret
  exact ⟨⟨s, rfl, hs⟩, B2.out⟩
theorem drawWg (sa : Option Addr) (sl sc : Nat) (w : World) (hc : Code8 w w.heap.size sa sl) (hl : sl ≤ 4096) :
    Calls Tryd.prog 14 #[.slice sa sl sc] w fun e w' => (∃ (n : Int) (s : ByteArray), e = .returned (.tuple #[.int .i64 n, .string s]) ∧ s.size ≤ 26) ∧ Below w.heap.size w w' := by
  have hN := l1New sa sl sc w hc hl
  clear hc
  go_enter Tryd.func14, Tryd.ntmps14
  go_wp2_with fail
  refine hN.mono ?_
  rintro e w1 ⟨rfl, hc1, hb1⟩
  have HB1 : Hid (Below w.heap.size w w1) := hb1
  have C1 : Hid (Cur w1 w.heap.size sa sl sc) := hc1
  have Z1 : Hid (w.heap.size < w1.heap.size) := hc1.2.2.1
  clear hc1 hN hb1
  go_wp2_with fail
  refine (l1Below w.heap.size sa sl sc 100 (by decide) (by decide) _ C1.out).mono ?_
  rintro e w2 ⟨x, rfl, hx0, hx1, hc2, hb2⟩
  have C2 : Hid (Cur w2 w.heap.size sa sl sc) := hc2
  have S2 : Hid (Beside w.heap.size w1 w2) := hb2
  clear hc2 hb2 C1
  go_wp2_with fail
  refine (l1Once w.heap.size sa sl sc 10 (by decide) (by decide) _ C2.out).mono ?_
  rintro e w3 ⟨tt, rfl, hc3, hb3⟩
  have C3 : Hid (Cur w3 w.heap.size sa sl sc) := hc3
  have S3 : Hid (Beside w.heap.size w1 w3) := S2.out.trans hb3
  clear hc3 hb3 C2 S2
  cases tt with
  | false =>
    go_wp2_with fail
    refine (l13Key w.heap.size sa sl sc _ C3.out).mono ?_
    rintro e w4 ⟨⟨s, rfl, hs⟩, _, hb4⟩
    have B4 : Hid (Below w.heap.size w w4) := (show Hid _ from HB1.out.trans ((S3.out.trans hb4).low (Nat.le_refl _) (Nat.le_of_lt Z1.out)))
    clear hb4 S3 C3 HB1
    go_wp2
    go_ret2
    exact ⟨⟨_, s, rfl, hs⟩, B4.out⟩
  | true =>
    have hz3 : w.heap.size < w3.heap.size := C3.out.2.2.1
    go_wp2_with fail
    refine (l1Below w.heap.size sa sl sc 5 (by decide) (by decide) _ (C3.out.moreN _)).mono ?_
    rintro e w4 ⟨q, rfl, hq0, hq1, hc4, hb4⟩
    obtain ⟨q, rfl⟩ := Int.eq_ofNat_of_zero_le hq0
    obtain ⟨z, hz, _, _⟩ := tabIN hb4 (by omega) q (by simp; omega) rfl
    have C4 : Hid (Cur w4 w.heap.size sa sl sc) := hc4
    have S4 : Hid (Beside w.heap.size w1 w4) := (S3.out.moreN _).trans hb4
    clear hc4 hb4 C3 S3
    go_wp2_with fail
    refine (l13Key w.heap.size sa sl sc _ C4.out).mono ?_
    rintro e w5 ⟨⟨s, rfl, hs⟩, _, hb5⟩
    have B5 : Hid (Below w.heap.size w w5) := (show Hid _ from HB1.out.trans ((S4.out.trans hb5).low (Nat.le_refl _) (Nat.le_of_lt Z1.out)))
    clear hb5 S4 C4 HB1
    go_wp2
    go_ret2
    exact ⟨⟨_, s, rfl, hs⟩, B5.out⟩
theorem drawRk (sa : Option Addr) (sl sc : Nat) (w : World) (hc : Code8 w w.heap.size sa sl) (hl : sl ≤ 4096) :
    Calls Tryd.prog 9 #[.slice sa sl sc] w fun e w' => (∃ u l s, e = .returned (.tuple #[u, .string s]) ∧ OwnsN w' w.heap.size u l ∧ l.length ≤ 10 ∧ s.size ≤ 26) ∧ Below w.heap.size w w' := by
  have hN := l1New sa sl sc w hc hl
  clear hc
  go_enter Tryd.func9, Tryd.ntmps9
  go_wp2_with fail
  refine hN.mono ?_
  rintro e w1 ⟨rfl, hc1, hb1⟩
  have hD := l13Srv _ sa sl sc w1 hc1
  have Z1 : Hid (w.heap.size < w1.heap.size) := hc1.2.2.1
  clear hc1
  go_wp2_with fail
  refine hD.mono ?_
  rintro e w2 ⟨⟨u, l, rfl, ho, hf⟩, hc2, hb2⟩
  have HB2 : Hid (Beside w.heap.size w1 w2) := hb2
  have HO : Hid (OwnsN w2 w1.heap.size u l) := ho
  have hR := l13Key _ sa sl sc w2 hc2
  clear hb2 hN hD ho hc2
  go_wp2_with fail
  refine hR.mono ?_
  rintro e w3 ⟨⟨s, rfl, hr⟩, _, hb3⟩
  have O3 : Hid (OwnsN w3 w.heap.size u l) := (HO.out.bsN hb3 Z1.out).low (Nat.le_of_lt Z1.out)
  have B3 : Hid (Below w.heap.size w w3) := hb1.trans ((HB2.out.trans hb3).low (Nat.le_refl _) (Nat.le_of_lt Z1.out))
  clear hb3 hR HB2 HO
  go_wp2
  go_ret2
  exact ⟨⟨u, l, s, rfl, O3.out, hf, hr⟩, B3.out⟩
theorem Tryd.info9o : (Tryd.prog.info? 9).map (fun i => (i.zero, i.size, i.bytes)) = some (some (.string ⟨#[]⟩), 1, 16) := by kernel_rfl
/-- One text appended. -/
theorem wpList_pushO {ops : Array Oper} {rest : List Oper} {o : Oper} {a : Act} {Q : Exit → Act → World → Prop} (w : World) (hgd : o.guard = none) (s x : Operand)
    (ho : o.op = .call { callee := .builtin .append, args := #[s, x], argTypes := #[29, 29] }) (B : Nat) (v : Value) (l : List ByteArray) (c : ByteArray) (hs : a.eval s = v) (hown : OwnsX w B v l)
    (hx : a.eval x = .slice (some ⟨w.heap.size, 0, none⟩) 1 1) (hlen : l.length ≤ 1100000) (hB : B ≤ w.heap.size)
    (h : ∀ v' w', OwnsX w' B v' (l ++ [c]) → w.grownBy w' v.ownBlock → wpList Tryd.prog ops Q rest (a.put o.dst v') w') :
    wpList Tryd.prog ops Q (o :: rest) a (w.alloc (.cells #[.string c] 9)) := by
  refine wpList_rowE (E := txtE) _ hgd s x 29 9 (.string ⟨#[]⟩) 16 Tryd.underlying29 Tryd.info9o rfl ho B v l hs (OwnsE.alloc hown _) ⟨w.heap.size, 0, none⟩ 1 [c] hx (fresh_cell w c #[.string c] 9 rfl) (by unfold maxLen; simp; omega) (by simp; omega) (by simp; omega) ?_
  intro v' w' h1 h2 h3
  refine h v' w' h1 ⟨h2.os, h2.tape, h2.output, ?_, ?_⟩
  · have := h2.size
    simp at this
    omega
  · intro k hk hne
    rw [h2.block k (by simp; omega) hne]
    exact Below.heap_alloc _ _ _ hk
end Go.Proofs.YtdbeoloonoodkaaDoor
namespace Go.Proofs.YtdbeoloonoodkaaDoor
open Go.RowKit Go.Sort Ow Rw
set_option linter.unusedVariables false
set_option linter.unusedSimpArgs false

/-- What lies there while keys are drawn: the cursor, the servers. -/
structure Dk (w1 W : World) (b : Nat) (sa : Option Addr) (sl sc lo hi : Nat) (u : Value) (l : List Int) : Prop where
  cur : Cur W b sa sl sc
  bs : Beside b w1 W
  own : OwnsN W lo u l
  up : ∀ k, u.ownBlock = some k → k < hi
  lo : b < lo
  top : hi ≤ W.heap.size
theorem Dk.beside {w1 W W' : World} {b : Nat} {sa : Option Addr} {sl sc lo hi : Nat} {u : Value} {l : List Int} (h : Dk w1 W b sa sl sc lo hi u l) (hc : Cur W' b sa sl sc) (hb : Beside b W W') : Dk w1 W' b sa sl sc lo hi u l :=
  ⟨hc, h.bs.trans hb, h.own.bsN hb h.lo, h.up, h.lo, Nat.le_trans h.top hb.2.2.2.1⟩
theorem Dk.more {w1 W : World} {b : Nat} {sa : Option Addr} {sl sc lo hi : Nat} {u : Value} {l : List Int} (h : Dk w1 W b sa sl sc lo hi u l) (o : Obj) : Dk w1 (W.alloc o) b sa sl sc lo hi u l :=
  ⟨h.cur.moreN o, h.bs.moreN o, h.own.alloc o, h.up, h.lo, by have := h.top; simp; omega⟩
theorem Dk.grown {w1 W W' : World} {b : Nat} {sa : Option Addr} {sl sc lo hi : Nat} {u : Value} {l : List Int} (h : Dk w1 W b sa sl sc lo hi u l) {r : Option Nat} (hg : W.grownBy W' r) (hr : ∀ k, r = some k → hi ≤ k) (hlh : lo ≤ hi) (hw : w1.heap.size ≤ hi) : Dk w1 W' b sa sl sc lo hi u l := by
  have h1 : Below hi W W' := belowE (Below.refl _ W) hg h.top hr
  exact ⟨h.cur.kept h1 (by have := h.lo; omega), h.bs.grow h1 hw, h.own.grown hg (fun k hk e => by have := h.up k hk; have := hr k e; omega), h.up, h.lo, Nat.le_trans h.top hg.size⟩
theorem madeO (n : Nat) : (madeCells (Value.cells (.string ⟨#[]⟩)) (n * 1)).toList = cellsE txtE (List.replicate n ⟨#[]⟩) := by
  rw [Nat.mul_one]
  apply List.ext_getElem?
  intro j
  by_cases hj : j < n
  · have e : (madeCells (Value.cells (.string ⟨#[]⟩)) n).toList[j]? = some (.string ⟨#[]⟩) := by simp [madeCells, hj, Value.cells, Nat.mod_one]
    rw [e, cellsX_at (List.replicate n ⟨#[]⟩) j (by simpa using hj)]
    simp
  · rw [List.getElem?_eq_none (by simp [madeCells]; omega), List.getElem?_eq_none (by rw [cellsE_length]; simp; show n * 1 ≤ j; omega)]
set_option maxRecDepth 100000 in
set_option maxHeartbeats 4000000 in
theorem drawMv (sa : Option Addr) (sl sc : Nat) (w : World) (hc : Code8 w w.heap.size sa sl) (hl : sl ≤ 4096) :
    Calls Tryd.prog 12 #[.slice sa sl sc] w fun e w' => (∃ u l z v ks, e = .returned (.tuple #[u, .int .i64 z, v]) ∧ OwnsN w' w.heap.size u l ∧ l.length ≤ 10 ∧ OwnsX w' w.heap.size v ks ∧ ks.length ≤ 101 ∧ (∀ x ∈ ks, x.size ≤ 26)) ∧ Below w.heap.size w w' := by
  have hN := l1New sa sl sc w hc hl
  clear hc
  go_enter Tryd.func12, Tryd.ntmps12
  go_wp2_with fail
  refine hN.mono ?_
  rintro e w1 ⟨rfl, hc1, hb1⟩
  have hD := l13Srv _ sa sl sc w1 hc1
  have Z1 : w.heap.size < w1.heap.size := hc1.2.2.1
  have HB1 : Hid (Below w.heap.size w w1) := hb1
  clear hc1 hb1
  go_wp2_with fail
  refine hD.mono ?_
  rintro e w2 ⟨⟨u, l, rfl, ho, hf⟩, hc2, hb2⟩
  obtain ⟨ua, uc, rfl, _⟩ := ho.form
  have hz2 : w1.heap.size ≤ w2.heap.size := hb2.2.2.2.1
  have D2 : Hid (Dk w1 w2 w.heap.size sa sl sc w1.heap.size w2.heap.size (.slice ua l.length uc) l) := ⟨hc2, hb2, ho, fun k hk => ho.under k hk, Z1, Nat.le_refl _⟩
  clear hb2 hN hD ho hc2
  go_wp2_with fail
  refine (l1Below _ sa sl sc 20 (by decide) (by decide) _ D2.out.cur).mono ?_
  rintro e w3 ⟨x, rfl, hx0, hx1, hc3, hb3⟩
  have D3 : Hid (Dk w1 w3 w.heap.size sa sl sc w1.heap.size w2.heap.size (.slice ua l.length uc) l) := D2.out.beside hc3 hb3
  clear hc3 hb3 D2
  go_upto_region 4 with fail
  go_cut [23] from 16 to 23 (fun s wx => ∃ bt : Bool, s = .bool bt ∧ (bt = true → 0 < l.length) ∧ Hid (Dk w1 wx w.heap.size sa sl sc w1.heap.size w2.heap.size (.slice ua l.length uc) l))
  case first =>
    by_cases hl0 : 0 < l.length
    · have hl0i : (0 : Int) < (l.length : Int) := by omega
      go_wp2_with fail
      refine (l1Once _ sa sl sc 5 (by decide) (by decide) _ D3.out.cur).mono ?_
      rintro e w4 ⟨tt, rfl, hc4, hb4⟩
      have D4 : Hid (Dk w1 w4 w.heap.size sa sl sc w1.heap.size w2.heap.size (.slice ua l.length uc) l) := D3.out.beside hc4 hb4
      clear hc4 hb4 D3
      go_wp2_with fail
      go_meet
      exact ⟨_, rfl, fun _ => hl0, D4⟩
    · have hl0i : ¬ (0 : Int) < (l.length : Int) := by omega
      go_wp2_with fail
      go_meet
      exact ⟨_, rfl, (fun h => by cases h), D3⟩
  case rest =>
   have HC : Hid _ := hcut
   clear hcut D3
   obtain ⟨w4', rfl⟩ : ∃ z, z = wc := ⟨wc, rfl⟩
   go_wp2_with fail
   go_cut [7] from 24 to 30 (fun s wx => ∃ z : Int, s = .int .i64 z ∧ Hid (Dk w1 wx w.heap.size sa sl sc w1.heap.size w2.heap.size (.slice ua l.length uc) l))
   case first =>
    obtain ⟨bt, rfl, hbt, D4'⟩ := HC.out
    have HBT : Hid (bt = true → 0 < l.length) := hbt
    clear hbt HC
    cases bt with
    | false =>
      go_wp2_with fail
      go_meet
      exact ⟨_, rfl, D4'⟩
    | true =>
      have hl0 := HBT.out rfl
      obtain ⟨ug, rfl⟩ := ownsN_some D4'.out.own hl0
      go_wp2_with fail
      refine (l1Below _ sa sl sc (l.length : Int) (by omega) (by omega) _ D4'.out.cur).mono ?_
      rintro e w5 ⟨y, rfl, hy0, hy1, hc5, hb5⟩
      obtain ⟨y, rfl⟩ := Int.eq_ofNat_of_zero_le hy0
      have D5 : Hid (Dk w1 w5 w.heap.size sa sl sc w1.heap.size w2.heap.size (.slice (some ⟨ug, 0, none⟩) l.length uc) l) := D4'.out.beside hc5 hb5
      have c5 := ownsN_at D5.out.own y (by omega)
      clear hc5 hb5 D4'
      go_wp2_with fail
      go_meet
      exact ⟨_, rfl, D5⟩
   case rest =>
    obtain ⟨z, rfl, D4⟩ := hcut
    obtain ⟨w4, rfl⟩ : ∃ z, z = wc := ⟨wc, rfl⟩
    clear HC
    have D5 : Hid (Dk w1 (w4.alloc (.cells #[] 9)) w.heap.size sa sl sc w1.heap.size w2.heap.size (.slice ua l.length uc) l) := D4.out.more _
    have O5 : Hid (OwnsX (w4.alloc (.cells #[] 9)) w2.heap.size (.slice (some ⟨w4.heap.size, 0, none⟩) 0 0) []) := (show Hid _ from (OwnsE.born (E := txtE) (ty := 9) w4).low D4.out.top)
    have hwb : w.heap.size < w2.heap.size := by omega
    clear D4
    go_wp2_with fail
    refine (l1Below _ sa sl sc 9 (by decide) (by decide) _ D5.out.cur).mono ?_
    rintro e w6 ⟨n, rfl, hn0, hn1, hc6, hb6⟩
    obtain ⟨n, rfl⟩ := Int.eq_ofNat_of_zero_le hn0
    have D6 : Hid (Dk w1 w6 w.heap.size sa sl sc w1.heap.size w2.heap.size (.slice ua l.length uc) l) := D5.out.beside hc6 hb6
    have O6 : Hid (OwnsX w6 w2.heap.size (.slice (some ⟨w4.heap.size, 0, none⟩) 0 0) []) := O5.out.bsN hb6 hwb
    clear hc6 hb6 D5 O5
    go_wp2_with fail
    go_loopw [8, 9] (fun v n wr => ∃ (k : Nat) (ks : List ByteArray) (va : Option Addr) (vc : Nat), n = .int .i64 k ∧ k ≤ 8 ∧ v = .slice va ks.length vc ∧ Hid (OwnsX wr w2.heap.size (.slice va ks.length vc) ks) ∧ Hid (Dk w1 wr w.heap.size sa sl sc w1.heap.size w2.heap.size (.slice ua l.length uc) l) ∧ ks.length + k ≤ 8 ∧ Hid (∀ x ∈ ks, x.size ≤ 26)) (fun _ n _ => (intOf n).toNat)
    case atStart => exact ⟨n, [], _, _, rfl, by omega, rfl, O6, D6, by simp <;> omega, (show ∀ _, _ from fun x hx => by cases hx)⟩
    case round =>
      clear O6 D6
      obtain ⟨k, ks, va, vc, rfl, hk8, rfl, ho, hd, hlk, hks⟩ := hrel
      by_cases hk : 0 < k
      · go_wp2_with fail
        refine (l13Key _ sa sl sc _ hd.out.cur).mono ?_
        rintro e w7 ⟨⟨s, rfl, hs⟩, hc7, hb7⟩
        have D7 : Hid (Dk w1 w7 w.heap.size sa sl sc w1.heap.size w2.heap.size (.slice ua l.length uc) l) := hd.out.beside hc7 hb7
        have O7 : Hid (OwnsX w7 w2.heap.size (.slice va ks.length vc) ks) := ho.out.bsN hb7 hwb
        have hz7 : w2.heap.size ≤ w7.heap.size := D7.out.top
        have HS : Hid (∀ x ∈ ks ++ [s], x.size ≤ 26) := (show ∀ _, _ from fun x hx => by
          rcases List.mem_append.1 hx with h | h
          · exact hks.out x h
          · rw [List.mem_singleton.1 h]; exact hs)
        clear hc7 hb7 hd ho hks
        go_wp2_with (at_builtin; refine wpList_pushO _ rfl (.tmp 38) (.tmp 41) rfl w2.heap.size _ ks s rfl O7.out rfl (by omega) hz7 ?_; intro v8 w8 ho8 hg8; obtain ⟨a8, c8, hv8, _⟩ := ho8.form; subst hv8; have O8 : Hid (OwnsX w8 w2.heap.size (.slice a8 (ks ++ [s]).length c8) (ks ++ [s])) := ho8; have D8 : Hid (Dk w1 w8 w.heap.size sa sl sc w1.heap.size w2.heap.size (.slice ua l.length uc) l) := D7.out.grown hg8 (fun k hk => O7.out.from k hk) hz2 hz2; clear ho8 hg8)
        go_roundw
        case rel => exact ⟨k - 1, ks ++ [s], a8, c8, by go_num, by omega, by simp, O8, D8, by simp; omega, HS⟩
        case measure => simp [intOf]; omega
      · have hl8 : ks.length ≤ 8 := by omega
        go_wp2_with fail
        refine (l1Once _ sa sl sc 30 (by decide) (by decide) _ hd.out.cur).mono ?_
        rintro e w7 ⟨tt, rfl, hc7, hb7⟩
        have D7 : Hid (Dk w1 w7 w.heap.size sa sl sc w1.heap.size w2.heap.size (.slice ua l.length uc) l) := hd.out.beside hc7 hb7
        have O7 : Hid (OwnsX w7 w2.heap.size (.slice va ks.length vc) ks) := ho.out.bsN hb7 hwb
        clear hc7 hb7 hd ho
        cases tt with
        | false =>
          go_wp2
          go_ret3
          exact ⟨⟨_, l, z, _, ks, rfl, D7.out.own.low (Nat.le_of_lt Z1), hf, O7.out.low (Nat.le_of_lt hwb), by omega, hks.out⟩, HB1.out.trans (D7.out.bs.low (Nat.le_refl _) (Nat.le_of_lt Z1))⟩
        | true =>
          go_wp2_with fail
          refine (l1Below _ sa sl sc 2 (by decide) (by decide) _ D7.out.cur).mono ?_
          rintro e w8 ⟨q, rfl, hq0, hq1, hc8, hb8⟩
          obtain ⟨q, rfl⟩ := Int.eq_ofNat_of_zero_le hq0
          have D8 : Hid (Dk w1 w8 w.heap.size sa sl sc w1.heap.size w2.heap.size (.slice ua l.length uc) l) := D7.out.beside hc8 hb8
          clear hc8 hb8 D7 O7
          obtain ⟨m, hm⟩ : ∃ m, m = 100 + q := ⟨_, rfl⟩
          have hwn : IntKind.i64.wrap (100 + (q : Int)) = (m : Int) := by rw [IntKind.wrap_i64]; omega
          have hm101 : m ≤ 101 := by omega
          have hz8 := D8.out.top
          obtain ⟨i0, hi, hi0, hi1, hi2⟩ := info_parts Tryd.info9o
          obtain ⟨w9, hrun, hown, hgr⟩ := run_make_full (P := Tryd.prog) w8 w8.heap.size 29 9 i0 (.string ⟨#[]⟩) 1 Tryd.underlying29 hi hi0 hi1 .i64 .i64 m (by rw [hi2]; omega) (by unfold maxLen; omega) (Nat.le_refl _)
          rw [madeO] at hown
          have O9 : Hid (OwnsX w9 w.heap.size (.slice (some ⟨w8.heap.size, 0, Option.none⟩) m m) (List.replicate m ⟨#[]⟩)) := by
            have : OwnsX w9 w8.heap.size (.slice (some ⟨w8.heap.size, 0, Option.none⟩) m m) (List.replicate m ⟨#[]⟩) := by
              show w9.ownsRow _ _ 1 _ _ _
              rw [List.length_replicate]
              exact hown
            exact this.low (by omega)
          have D9 : Hid (Dk w1 w9 w.heap.size sa sl sc w1.heap.size w2.heap.size (.slice ua l.length uc) l) := D8.out.grown hgr (fun k hk => by cases hk) hz2 hz2
          clear hown hgr hi hi0 hi1 hi2 hm D8
          go_wp2
          go_ret3
          exact ⟨⟨_, l, z, _, List.replicate m ⟨#[]⟩, rfl, D9.out.own.low (Nat.le_of_lt Z1), hf, O9.out, by simp; omega, fun x hx => by rw [(List.mem_replicate.1 hx).2]; decide⟩, HB1.out.trans (D9.out.bs.low (Nat.le_refl _) (Nat.le_of_lt Z1))⟩
end Go.Proofs.YtdbeoloonoodkaaDoor

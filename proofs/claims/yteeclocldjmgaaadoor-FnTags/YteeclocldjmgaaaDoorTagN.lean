/-
  The program's NoneMatch and AnyMatch by their contracts: what is asked of each item is a function value.
-/
import Derived.Test.YteeclocldjmgaaaDoorTagK
import Derived.Test.YteeclocldjmgaaaDoorTagM
import Derived.Test.YteeclocldjmgaaaDoorTagC
import Derived.Test.YteeclocldjmgaaaDoorItems2
namespace Go.Proofs.YteeclocldjmgaaaDoor
open Go.RowKit
set_option linter.unusedVariables false


set_option maxHeartbeats 400000 in
/-- What is asked of a tag. -/
theorem askL (y x : Tg) (b : Nat) (w : World) (hy : y.t.size ≤ maxLen) (hx : x.t.size ≤ maxLen) (hb : TgB w b x) :
    Calls Tryd.prog 38 #[tgV y, .pointer (some ⟨b, 0, none⟩)] w fun e w' => e = .returned (.bool (likB y x)) ∧ Below w.heap.size w w' := by
  have hk := fun W => implLik y x W hy hx
  have T0 : Hid (TgB (w.alloc (.cells #[.bool y.w, .string y.t] 25)) b x) := hb.alloc _
  have B0 : Hid (Below w.heap.size w (w.alloc (.cells #[.bool y.w, .string y.t] 25))) := (Below.refl _ w).alloc (Nat.le_refl _) _
  unfold tgV at hk ⊢
  have c0 := T0.out.c0
  have c1 := T0.out.c1
  clear hb
  go_enter Tryd.func38, Tryd.ntmps38
  go_wp2_with fail
  refine (hk _).mono ?_
  rintro e w1 ⟨rfl, hb1⟩
  have B1 : Hid (Below w.heap.size w w1) := past7 B0.out hb1
  clear hb1 c0 c1
  go_wp2
  go_ret
  exact ⟨rfl, B1.out⟩
set_option maxHeartbeats 1000000 in
theorem someL (s : ByteArray) (x : Tg) (b : Nat) (w : World) (hs : s.size ≤ maxLen) (hx : x.t.size ≤ maxLen) (hT : TgB w b x) :
    Calls Tryd.prog 45 #[.string s, .func (.func 38) #[] #[.pointer (some ⟨b, 0, none⟩)]] w fun e w' => e = .returned (.bool (anyT (fun y => likB y x) (itemsA s))) ∧ Below w.heap.size w w' := by
  have hit := fun W => implItems s W hs
  have hsz := items_size s
  have hlen : (itemsA s).length ≤ 1000 := by have := itemsA_length s; omega
  have hrd := fun (t : ByteArray) W (h : t ∈ itemsA s) => implRd t W (by have := hsz t h; omega)
  have hlk := fun (y : Tg) W (h : y.t.size ≤ 40) (hb : TgB W b x) => askL y x b W (by unfold maxLen; omega) hx hb
  have T0 : Hid (TgB w b x) := hT
  unfold tgV at hlk
  generalize itemsA s = l at hit hsz hrd hlen ⊢
  have HL : Hid (∀ c, anyT (fun y => likB y x) l = c → c = anyT (fun y => likB y x) l) := fun c h => h.symm
  generalize hR : anyT (fun y => likB y x) l = R at HL ⊢
  have HL : Hid (∀ c, anyT (fun y => likB y x) l = c → c = R) := fun c h => by rw [← h, hR]
  clear hT hR
  have hll := hlen
  go_enter Tryd.func45, Tryd.ntmps45
  go_wp2_with fail
  refine (hit _).mono ?_
  rintro e w1 ⟨v, rfl, ho, hb1⟩
  have ho' := ho
  obtain ⟨⟨g, cap, rfl, hg0, hg1⟩, _⟩ := ho
  have O1 : Hid (∀ j (hj : j < l.length), w1.cell? ⟨g, j, none⟩ = some (.string l[j])) := ho'.at rfl
  have B1 : Hid (Below w.heap.size w w1) := hb1
  have T1 : Hid (TgB w1 b x) := T0.out.kept hb1
  have HG : Hid (g < w1.heap.size) := hg1
  clear hb1 ho' hg0 hg1 hit T0
  go_wp2
  go_loopw [12] (fun i wr => ∃ k : Nat, k ≤ l.length ∧ i = .int .i64 k ∧ Hid (Below w1.heap.size w1 wr) ∧ Hid (anyT (fun y => likB y x) (l.take k) = false)) (fun i _ => l.length - (intOf i).toNat)
  case atStart => exact ⟨0, Nat.zero_le _, rfl, Below.refl _ _, rfl⟩
  case round =>
    obtain ⟨k, hk, rfl, hb, ha⟩ := hrel
    by_cases hlt : k < l.length
    · have hc : wr.cell? ⟨g, k, none⟩ = some (.string l[k]) := (hb.out.cell (p := ⟨g, k, none⟩) HG.out).trans (O1.out k hlt)
      have TR : Hid (TgB wr b x) := T1.out.kept hb.out
      have hr := fun W => hrd l[k] W (List.getElem_mem hlt)
      have HS := fun h1 => anyT_step (p := fun y => likB y x) hlt ha.out h1
      have HH := fun h1 => HL.out true (anyT_hit (p := fun y => likB y x) hlt h1)
      have ho := @anyT_one_some (fun y => likB y x) l[k]
      have hn := @anyT_one_none (fun y => likB y x) l[k]
      have hz := @rdT_size l[k]
      have dl : decide ((k : Int) < (l.length : Int)) = true := decide_eq_true (by omega)
      generalize l[k] = t at hc hr HS HH ho hn hz
      cases hro : rdT t with
      | none =>
        have HA : Hid (anyT (fun y => likB y x) (l.take (k + 1)) = false) := HS (hn hro)
        simp only [hro, rdV_none] at hr
        clear HS HH ho hn hz hro
        go_wp2_with (go_at_call 11; refine (hr _).mono ?_; rintro e w2 ⟨rfl, hb2⟩; have B2 : Hid (Below wr.heap.size wr w2) := hb2; clear hb2)
        go_roundw
        case rel => exact ⟨k + 1, by omega, by go_num, (hb.out.trans (B2.out.mono hb.out.size)).alloc (Nat.le_trans hb.out.size B2.out.size) _, HA⟩
        case measure => simp [intOf]; omega
      | some y =>
        have hy := hz hro
        have hlk' := fun W hT => hlk y W hy hT
        have HA : Hid (∀ c, likB y x = c → anyT (fun y => likB y x) [t] = c) := fun c h => (ho hro).trans h
        simp only [hro, rdV_some] at hr
        clear ho hn hz hro hlk
        generalize likB y x = ans at hlk' HA
        go_wp2_with fail
        refine (hr _).mono ?_
        rintro e w2 ⟨rfl, hb2⟩
        have B2 : Hid (Below w1.heap.size w1 w2) := hb.out.trans (hb2.mono hb.out.size)
        have T2 : Hid (TgB (w2.alloc (.cells #[.bool y.w, .string y.t] 25)) b x) := (TR.out.kept hb2).alloc _
        have B3 : Hid (Below w1.heap.size w1 (w2.alloc (.cells #[.bool y.w, .string y.t] 25))) := B2.out.alloc B2.out.size _
        clear hb2 hr
        go_wp2_with fail
        refine (hlk' _ T2.out).mono ?_
        rintro e w3 ⟨rfl, hb3⟩
        have B4 : Hid (Below w1.heap.size w1 w3) := B3.out.trans (hb3.mono B3.out.size)
        clear hb3 hlk'
        cases ans with
        | false =>
          have HA' : Hid (anyT (fun y => likB y x) (l.take (k + 1)) = false) := HS (HA.out false rfl)
          clear HS HH HA
          go_wp2
          go_roundw
          case rel => exact ⟨k + 1, by omega, by go_num, B4.out, HA'⟩
          case measure => simp [intOf]; omega
        | true =>
          have HA' : Hid (true = R) := HH (HA.out true rfl)
          clear HS HH HA
          go_wp2
          go_ret
          exact ⟨ret_bool HA'.out, B1.out.trans (B4.out.mono B1.out.size)⟩
    · have dl : decide ((k : Int) < (l.length : Int)) = false := decide_eq_false (by omega)
      have HE : Hid (false = R) := HL.out false (anyT_end hlt ha.out)
      have HB : Hid (Below w.heap.size w wr) := B1.out.trans (hb.out.mono B1.out.size)
      go_wp2
      go_ret
      exact ⟨ret_bool HE.out, HB.out⟩
/-- What matches, asked so. -/
def mtL (s : ByteArray) (x : Tg) (c : Bool) : Bool := c && (decide (s = starS) || anyT (fun y => likB y x) (itemsA s))
set_option maxHeartbeats 400000 in
theorem matchL (s : ByteArray) (x : Tg) (c : Bool) (b : Nat) (w : World) (hs : s.size ≤ maxLen) (hx : x.t.size ≤ maxLen) (hT : TgB w b x) :
    Calls Tryd.prog 37 #[.string s, .bool c, .func (.func 38) #[] #[.pointer (some ⟨b, 0, none⟩)]] w fun e w' => e = .returned (.bool (mtL s x c)) ∧ Below w.heap.size w w' := by
  have hk := fun W h => someL s x b W hs hx h
  cases c with
  | false =>
    have H : Hid (false = mtL s x false) := rfl
    clear hk
    generalize mtL s x false = R at H ⊢
    go_enter Tryd.func37, Tryd.ntmps37
    go_wp2
    go_ret
    exact ⟨ret_bool H.out, Below.refl _ _⟩
  | true =>
    by_cases hst : s = starS
    · have d := same_star hst
      have H : Hid (true = mtL s x true) := by show _ = mtL s x true; unfold mtL; rw [decide_eq_true hst]; rfl
      generalize mtL s x true = R at H ⊢
      clear hst hk
      go_enter Tryd.func37, Tryd.ntmps37
      go_wp2
      go_ret
      exact ⟨ret_bool H.out, Below.refl _ _⟩
    · have d := diff_star hst
      have H : Hid (anyT (fun y => likB y x) (itemsA s) = mtL s x true) := by show _ = mtL s x true; unfold mtL; rw [decide_eq_false hst]; rfl
      generalize mtL s x true = R at H ⊢
      generalize anyT (fun y => likB y x) (itemsA s) = a at H hk
      clear hst
      have T0 : Hid (TgB w b x) := hT
      clear hT
      go_enter Tryd.func37, Tryd.ntmps37
      go_wp2_with fail
      refine (hk _ T0.out).mono ?_
      rintro e w1 ⟨rfl, hb1⟩
      have B1 : Hid (Below w.heap.size w w1) := hb1
      clear hb1 hk
      go_wp2
      go_ret
      exact ⟨ret_bool H.out, B1.out⟩
set_option maxHeartbeats 400000 in
theorem implNon (s : ByteArray) (x : Tg) (c : Bool) (w : World) (hs : s.size ≤ maxLen) (hx : x.t.size ≤ maxLen) :
    Calls Tryd.prog 16 #[.string s, tgV x, .bool c] w fun e w' => e = .returned (.bool (nonM s x c)) ∧ Below w.heap.size w w' := by
  have hmf : ∀ (fn : Fn) (first cap : Array Value) (w : World), (Instr.makeFunc fn first cap).run Tryd.prog w = .ok (.func fn first cap) w := fun _ _ _ _ => rfl
  have hk := fun W h => matchL s x c w.heap.size W hs hx h
  have T0 : Hid (TgB (w.alloc (.cells #[.bool x.w, .string x.t] 25)) w.heap.size x) := TgB.new w x 25
  have B0 : Hid (Below w.heap.size w (w.alloc (.cells #[.bool x.w, .string x.t] 25))) := (Below.refl _ w).alloc (Nat.le_refl _) _
  have H : Hid ((!mtL s x c) = nonM s x c) := by
    show _ = nonM s x c
    unfold mtL nonM
    by_cases hst : s = starS
    · rw [if_pos hst, decide_eq_true hst]; cases c <;> rfl
    · rw [if_neg hst, decide_eq_false hst]; rfl
  generalize nonM s x c = R at H ⊢
  generalize mtL s x c = m at H hk
  unfold tgV
  go_enter Tryd.func16, Tryd.ntmps16
  go_wp2_with fail
  refine (hk _ T0.out).mono ?_
  rintro e w1 ⟨rfl, hb1⟩
  have B1 : Hid (Below w.heap.size w w1) := past7 B0.out hb1
  clear hb1 hk
  go_wp2
  go_ret
  exact ⟨ret_bool H.out, B1.out⟩

set_option maxHeartbeats 400000 in
/-- What is asked of a tag. -/
theorem askS (y x : Tg) (b : Nat) (w : World) (hy : y.t.size ≤ maxLen) (hx : x.t.size ≤ maxLen) (hb : TgB w b x) :
    Calls Tryd.prog 39 #[tgV y, .pointer (some ⟨b, 0, none⟩)] w fun e w' => e = .returned (.bool (strB y x)) ∧ Below w.heap.size w w' := by
  have hk := fun W => implStr y x W hy hx
  have T0 : Hid (TgB (w.alloc (.cells #[.bool y.w, .string y.t] 25)) b x) := hb.alloc _
  have B0 : Hid (Below w.heap.size w (w.alloc (.cells #[.bool y.w, .string y.t] 25))) := (Below.refl _ w).alloc (Nat.le_refl _) _
  unfold tgV at hk ⊢
  have c0 := T0.out.c0
  have c1 := T0.out.c1
  clear hb
  go_enter Tryd.func39, Tryd.ntmps39
  go_wp2_with fail
  refine (hk _).mono ?_
  rintro e w1 ⟨rfl, hb1⟩
  have B1 : Hid (Below w.heap.size w w1) := past7 B0.out hb1
  clear hb1 c0 c1
  go_wp2
  go_ret
  exact ⟨rfl, B1.out⟩
set_option maxHeartbeats 1000000 in
theorem someS (s : ByteArray) (x : Tg) (b : Nat) (w : World) (hs : s.size ≤ maxLen) (hx : x.t.size ≤ maxLen) (hT : TgB w b x) :
    Calls Tryd.prog 45 #[.string s, .func (.func 39) #[] #[.pointer (some ⟨b, 0, none⟩)]] w fun e w' => e = .returned (.bool (anyT (fun y => strB y x) (itemsA s))) ∧ Below w.heap.size w w' := by
  have hit := fun W => implItems s W hs
  have hsz := items_size s
  have hlen : (itemsA s).length ≤ 1000 := by have := itemsA_length s; omega
  have hrd := fun (t : ByteArray) W (h : t ∈ itemsA s) => implRd t W (by have := hsz t h; omega)
  have hlk := fun (y : Tg) W (h : y.t.size ≤ 40) (hb : TgB W b x) => askS y x b W (by unfold maxLen; omega) hx hb
  have T0 : Hid (TgB w b x) := hT
  unfold tgV at hlk
  generalize itemsA s = l at hit hsz hrd hlen ⊢
  have HL : Hid (∀ c, anyT (fun y => strB y x) l = c → c = anyT (fun y => strB y x) l) := fun c h => h.symm
  generalize hR : anyT (fun y => strB y x) l = R at HL ⊢
  have HL : Hid (∀ c, anyT (fun y => strB y x) l = c → c = R) := fun c h => by rw [← h, hR]
  clear hT hR
  have hll := hlen
  go_enter Tryd.func45, Tryd.ntmps45
  go_wp2_with fail
  refine (hit _).mono ?_
  rintro e w1 ⟨v, rfl, ho, hb1⟩
  have ho' := ho
  obtain ⟨⟨g, cap, rfl, hg0, hg1⟩, _⟩ := ho
  have O1 : Hid (∀ j (hj : j < l.length), w1.cell? ⟨g, j, none⟩ = some (.string l[j])) := ho'.at rfl
  have B1 : Hid (Below w.heap.size w w1) := hb1
  have T1 : Hid (TgB w1 b x) := T0.out.kept hb1
  have HG : Hid (g < w1.heap.size) := hg1
  clear hb1 ho' hg0 hg1 hit T0
  go_wp2
  go_loopw [12] (fun i wr => ∃ k : Nat, k ≤ l.length ∧ i = .int .i64 k ∧ Hid (Below w1.heap.size w1 wr) ∧ Hid (anyT (fun y => strB y x) (l.take k) = false)) (fun i _ => l.length - (intOf i).toNat)
  case atStart => exact ⟨0, Nat.zero_le _, rfl, Below.refl _ _, rfl⟩
  case round =>
    obtain ⟨k, hk, rfl, hb, ha⟩ := hrel
    by_cases hlt : k < l.length
    · have hc : wr.cell? ⟨g, k, none⟩ = some (.string l[k]) := (hb.out.cell (p := ⟨g, k, none⟩) HG.out).trans (O1.out k hlt)
      have TR : Hid (TgB wr b x) := T1.out.kept hb.out
      have hr := fun W => hrd l[k] W (List.getElem_mem hlt)
      have HS := fun h1 => anyT_step (p := fun y => strB y x) hlt ha.out h1
      have HH := fun h1 => HL.out true (anyT_hit (p := fun y => strB y x) hlt h1)
      have ho := @anyT_one_some (fun y => strB y x) l[k]
      have hn := @anyT_one_none (fun y => strB y x) l[k]
      have hz := @rdT_size l[k]
      have dl : decide ((k : Int) < (l.length : Int)) = true := decide_eq_true (by omega)
      generalize l[k] = t at hc hr HS HH ho hn hz
      cases hro : rdT t with
      | none =>
        have HA : Hid (anyT (fun y => strB y x) (l.take (k + 1)) = false) := HS (hn hro)
        simp only [hro, rdV_none] at hr
        clear HS HH ho hn hz hro
        go_wp2_with (go_at_call 11; refine (hr _).mono ?_; rintro e w2 ⟨rfl, hb2⟩; have B2 : Hid (Below wr.heap.size wr w2) := hb2; clear hb2)
        go_roundw
        case rel => exact ⟨k + 1, by omega, by go_num, (hb.out.trans (B2.out.mono hb.out.size)).alloc (Nat.le_trans hb.out.size B2.out.size) _, HA⟩
        case measure => simp [intOf]; omega
      | some y =>
        have hy := hz hro
        have hlk' := fun W hT => hlk y W hy hT
        have HA : Hid (∀ c, strB y x = c → anyT (fun y => strB y x) [t] = c) := fun c h => (ho hro).trans h
        simp only [hro, rdV_some] at hr
        clear ho hn hz hro hlk
        generalize strB y x = ans at hlk' HA
        go_wp2_with fail
        refine (hr _).mono ?_
        rintro e w2 ⟨rfl, hb2⟩
        have B2 : Hid (Below w1.heap.size w1 w2) := hb.out.trans (hb2.mono hb.out.size)
        have T2 : Hid (TgB (w2.alloc (.cells #[.bool y.w, .string y.t] 25)) b x) := (TR.out.kept hb2).alloc _
        have B3 : Hid (Below w1.heap.size w1 (w2.alloc (.cells #[.bool y.w, .string y.t] 25))) := B2.out.alloc B2.out.size _
        clear hb2 hr
        go_wp2_with fail
        refine (hlk' _ T2.out).mono ?_
        rintro e w3 ⟨rfl, hb3⟩
        have B4 : Hid (Below w1.heap.size w1 w3) := B3.out.trans (hb3.mono B3.out.size)
        clear hb3 hlk'
        cases ans with
        | false =>
          have HA' : Hid (anyT (fun y => strB y x) (l.take (k + 1)) = false) := HS (HA.out false rfl)
          clear HS HH HA
          go_wp2
          go_roundw
          case rel => exact ⟨k + 1, by omega, by go_num, B4.out, HA'⟩
          case measure => simp [intOf]; omega
        | true =>
          have HA' : Hid (true = R) := HH (HA.out true rfl)
          clear HS HH HA
          go_wp2
          go_ret
          exact ⟨ret_bool HA'.out, B1.out.trans (B4.out.mono B1.out.size)⟩
    · have dl : decide ((k : Int) < (l.length : Int)) = false := decide_eq_false (by omega)
      have HE : Hid (false = R) := HL.out false (anyT_end hlt ha.out)
      have HB : Hid (Below w.heap.size w wr) := B1.out.trans (hb.out.mono B1.out.size)
      go_wp2
      go_ret
      exact ⟨ret_bool HE.out, HB.out⟩
/-- What matches, asked so. -/
def mtS (s : ByteArray) (x : Tg) (c : Bool) : Bool := c && (decide (s = starS) || anyT (fun y => strB y x) (itemsA s))
set_option maxHeartbeats 400000 in
theorem matchS (s : ByteArray) (x : Tg) (c : Bool) (b : Nat) (w : World) (hs : s.size ≤ maxLen) (hx : x.t.size ≤ maxLen) (hT : TgB w b x) :
    Calls Tryd.prog 37 #[.string s, .bool c, .func (.func 39) #[] #[.pointer (some ⟨b, 0, none⟩)]] w fun e w' => e = .returned (.bool (mtS s x c)) ∧ Below w.heap.size w w' := by
  have hk := fun W h => someS s x b W hs hx h
  cases c with
  | false =>
    have H : Hid (false = mtS s x false) := rfl
    clear hk
    generalize mtS s x false = R at H ⊢
    go_enter Tryd.func37, Tryd.ntmps37
    go_wp2
    go_ret
    exact ⟨ret_bool H.out, Below.refl _ _⟩
  | true =>
    by_cases hst : s = starS
    · have d := same_star hst
      have H : Hid (true = mtS s x true) := by show _ = mtS s x true; unfold mtS; rw [decide_eq_true hst]; rfl
      generalize mtS s x true = R at H ⊢
      clear hst hk
      go_enter Tryd.func37, Tryd.ntmps37
      go_wp2
      go_ret
      exact ⟨ret_bool H.out, Below.refl _ _⟩
    · have d := diff_star hst
      have H : Hid (anyT (fun y => strB y x) (itemsA s) = mtS s x true) := by show _ = mtS s x true; unfold mtS; rw [decide_eq_false hst]; rfl
      generalize mtS s x true = R at H ⊢
      generalize anyT (fun y => strB y x) (itemsA s) = a at H hk
      clear hst
      have T0 : Hid (TgB w b x) := hT
      clear hT
      go_enter Tryd.func37, Tryd.ntmps37
      go_wp2_with fail
      refine (hk _ T0.out).mono ?_
      rintro e w1 ⟨rfl, hb1⟩
      have B1 : Hid (Below w.heap.size w w1) := hb1
      clear hb1 hk
      go_wp2
      go_ret
      exact ⟨ret_bool H.out, B1.out⟩
set_option maxHeartbeats 400000 in
theorem implAny (s : ByteArray) (x : Tg) (c : Bool) (w : World) (hs : s.size ≤ maxLen) (hx : x.t.size ≤ maxLen) :
    Calls Tryd.prog 17 #[.string s, tgV x, .bool c] w fun e w' => e = .returned (.bool (anyM s x c)) ∧ Below w.heap.size w w' := by
  have hmf : ∀ (fn : Fn) (first cap : Array Value) (w : World), (Instr.makeFunc fn first cap).run Tryd.prog w = .ok (.func fn first cap) w := fun _ _ _ _ => rfl
  have hk := fun W h => matchS s x c w.heap.size W hs hx h
  have T0 : Hid (TgB (w.alloc (.cells #[.bool x.w, .string x.t] 25)) w.heap.size x) := TgB.new w x 25
  have B0 : Hid (Below w.heap.size w (w.alloc (.cells #[.bool x.w, .string x.t] 25))) := (Below.refl _ w).alloc (Nat.le_refl _) _
  have H : Hid ((mtS s x c) = anyM s x c) := by
    show _ = anyM s x c
    unfold mtS anyM
    by_cases hst : s = starS
    · rw [if_pos hst, decide_eq_true hst]; cases c <;> rfl
    · rw [if_neg hst, decide_eq_false hst]; rfl
  generalize anyM s x c = R at H ⊢
  generalize mtS s x c = m at H hk
  unfold tgV
  go_enter Tryd.func17, Tryd.ntmps17
  go_wp2_with fail
  refine (hk _ T0.out).mono ?_
  rintro e w1 ⟨rfl, hb1⟩
  have B1 : Hid (Below w.heap.size w w1) := past7 B0.out hb1
  clear hb1 hk
  go_wp2
  go_ret
  exact ⟨ret_bool H.out, B1.out⟩
end Go.Proofs.YteeclocldjmgaaaDoor

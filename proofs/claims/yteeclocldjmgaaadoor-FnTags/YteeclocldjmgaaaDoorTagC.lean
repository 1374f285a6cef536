/-
  The specification's NoneMatch and AnyMatch by their contracts.
-/
import Derived.Test.YteeclocldjmgaaaDoorTagB
import Derived.Test.YteeclocldjmgaaaDoorItmZ
import Derived.Test.YteeclocldjmgaaaDoorItl
namespace Go.Proofs.YteeclocldjmgaaaDoor
open Go.RowKit
set_option linter.unusedVariables false

def starS : ByteArray := ⟨#[42]⟩
/-- What NoneMatch and AnyMatch answer. -/
def nonM (s : ByteArray) (x : Tg) (b : Bool) : Bool := if s = starS then !b else !(b && anyT (fun y => likB y x) (itemsA s))
def anyM (s : ByteArray) (x : Tg) (b : Bool) : Bool := if s = starS then b else b && anyT (fun y => strB y x) (itemsA s)
theorem star_list : starS.toList = [42] := by unfold starS; rw [ByteArray.toList_eq]
theorem same_star {s : ByteArray} (h : s = starS) : (s.toList == [42]) = true := by have := tsame h; rw [star_list] at this; exact this
theorem diff_star {s : ByteArray} (h : ¬ s = starS) : (s.toList == [42]) = false := by have := tdiff h; rw [star_list] at this; exact this
theorem match_not (s : ByteArray) (x : Tg) (b : Bool) : (nonM s x b && anyM s x b) = false := by
  unfold nonM anyM
  by_cases h : s = starS
  · rw [if_pos h, if_pos h]; cases b <;> rfl
  · rw [if_neg h, if_neg h]
    cases b with
    | false => rfl
    | true =>
      cases ha : anyT (fun y => strB y x) (itemsA s) with
      | false => simp
      | true =>
        have := anyT_mono (q := fun y => likB y x) (fun y hy => strB_lik hy) ha
        rw [this]
        rfl
theorem any_star (x : Tg) (b : Bool) : anyM starS x b = b := by unfold anyM; rw [if_pos rfl]
theorem anyT_step {p : Tg → Bool} {l : List ByteArray} {k : Nat} (hk : k < l.length) (h : anyT p (l.take k) = false) (hp : anyT p [l[k]] = false) : anyT p (l.take (k + 1)) = false := by
  rw [List.take_succ_eq_append_getElem hk, anyT_app, h, hp]; rfl
theorem anyT_hit {p : Tg → Bool} {l : List ByteArray} {k : Nat} (hk : k < l.length) (hp : anyT p [l[k]] = true) : anyT p l = true := by
  unfold anyT at *
  rw [List.any_eq_true] at *
  obtain ⟨s, hs, h⟩ := hp
  rw [List.mem_singleton.1 hs] at h
  exact ⟨_, List.getElem_mem hk, h⟩
theorem anyT_end {p : Tg → Bool} {l : List ByteArray} {k : Nat} (hk : ¬ k < l.length) (h : anyT p (l.take k) = false) : anyT p l = false := by
  rw [List.take_of_length_le (by omega)] at h; exact h
theorem anyT_one_some {p : Tg → Bool} {s : ByteArray} {x : Tg} (h : rdT s = some x) : anyT p [s] = p x := by
  unfold anyT; simp [h]
theorem anyT_one_none {p : Tg → Bool} {s : ByteArray} (h : rdT s = none) : anyT p [s] = false := by
  unfold anyT; simp [h]
set_option maxHeartbeats 2000000 in
theorem specNon (s : ByteArray) (x : Tg) (b : Bool) (w : World) (hs : s.size ≤ maxLen) (hx : x.t.size ≤ maxLen) :
    Calls Tryd.prog 22 #[.string s, tgV x, .bool b] w fun e w' => e = .returned (.bool (nonM s x b)) ∧ Below w.heap.size w w' := by
  have T0 : Hid (TgB (w.alloc (.cells #[.bool x.w, .string x.t] 25)) w.heap.size x) := TgB.new w x 25
  have B0 : Hid (Below w.heap.size w (w.alloc (.cells #[.bool x.w, .string x.t] 25))) := (Below.refl _ w).alloc (Nat.le_refl _) _
  by_cases hst : s = starS
  · have d := same_star hst
    have H : Hid ((!b) = nonM s x b) := by show _ = nonM s x b; unfold nonM; rw [if_pos hst]
    generalize nonM s x b = R at H ⊢
    unfold tgV
    clear hst
    go_enter Tryd.func22, Tryd.ntmps22
    go_wp2
    go_ret
    exact ⟨ret_bool H.out, B0.out⟩
  · have d := diff_star hst
    have H : Hid (nonM s x b = !(b && anyT (fun y => likB y x) (itemsA s))) := by show nonM s x b = _; unfold nonM; rw [if_neg hst]
    generalize nonM s x b = R at H ⊢
    have hit := fun W => specItems s W hs
    have hsz := items_size s
    have hlen : (itemsA s).length ≤ 1000 := by have := itemsA_length s; omega
    have hrd := fun (t : ByteArray) W (h : t ∈ itemsA s) => specRd t W (by have := hsz t h; unfold maxLen; omega)
    have hlk := fun (y : Tg) W (h : y.t.size ≤ 40) => specLik y x W (by unfold maxLen; omega) hx
    generalize itemsA s = l at H hit hsz hrd hlen
    clear hst
    unfold tgV at hlk ⊢
    cases b with
    | false =>
      have H' : Hid (true = R) := by rw [H.out]; rfl
      clear H hlk hrd
      go_enter Tryd.func22, Tryd.ntmps22
      go_wp2_with fail
      refine (hit _).mono ?_
      rintro e w1 ⟨v, rfl, ho, hb1⟩
      obtain ⟨⟨g, cap, rfl, hg0, hg1⟩, _⟩ := ho
      have B1 : Hid (Below w.heap.size w w1) := past7 B0.out hb1
      clear hb1
      go_wp2
      go_loop [8] (fun i => i = .int .i64 0) (fun i => 0)
      case atStart => rfl
      case round =>
        subst hrel
        by_cases hz : (0 : Int) < (l.length : Int)
        · have dz : decide ((0 : Int) < (l.length : Int)) = true := decide_eq_true hz
          go_wp2
          go_ret
          exact ⟨ret_bool H'.out, B1.out⟩
        · have dz : decide ((0 : Int) < (l.length : Int)) = false := decide_eq_false hz
          go_wp2
          go_ret
          exact ⟨ret_bool H'.out, B1.out⟩
    | true =>
      have HL : Hid (∀ c, anyT (fun y => likB y x) l = c → (!c) = R) := fun c h => by rw [H.out, h]; rfl
      clear H
      have hll := hlen
      go_enter Tryd.func22, Tryd.ntmps22
      go_wp2_with fail
      refine (hit _).mono ?_
      rintro e w1 ⟨v, rfl, ho, hb1⟩
      have ho' := ho
      obtain ⟨⟨g, cap, rfl, hg0, hg1⟩, _⟩ := ho
      have O1 : Hid (∀ j (hj : j < l.length), w1.cell? ⟨g, j, none⟩ = some (.string l[j])) := ho'.at rfl
      have B1 : Hid (Below w.heap.size w w1) := past7 B0.out hb1
      have T1 : Hid (TgB w1 w.heap.size x) := T0.out.kept hb1
      have HG : Hid (g < w1.heap.size) := hg1
      clear hb1 ho' hg0 hg1 hit T0 B0
      go_wp2
      go_loopw [8] (fun i wr => ∃ k : Nat, k ≤ l.length ∧ i = .int .i64 k ∧ Hid (Below w1.heap.size w1 wr) ∧ Hid (anyT (fun y => likB y x) (l.take k) = false)) (fun i _ => l.length - (intOf i).toNat)
      case atStart => exact ⟨0, Nat.zero_le _, rfl, Below.refl _ _, rfl⟩
      case round =>
        obtain ⟨k, hk, rfl, hb, ha⟩ := hrel
        by_cases hlt : k < l.length
        · have hc : wr.cell? ⟨g, k, none⟩ = some (.string l[k]) := (hb.out.cell (p := ⟨g, k, none⟩) HG.out).trans (O1.out k hlt)
          have TR : Hid (TgB wr w.heap.size x) := T1.out.kept hb.out
          have hr := fun W => hrd l[k] W (List.getElem_mem hlt)
          have HS := fun h1 => anyT_step (p := fun y => likB y x) hlt ha.out h1
          have HH := fun h1 => HL.out true (anyT_hit (p := fun y => likB y x) hlt h1)
          have ho := @anyT_one_some (fun y => likB y x) l[k]
          have hn := @anyT_one_none (fun y => likB y x) l[k]
          have hz := @rdT_size l[k]
          have dl : decide ((k : Int) < (l.length : Int)) = true := decide_eq_true (by omega)
          generalize l[k] = t at hc hr HS HH ho hn hz
          cases hro : rdT t with
          | none =>
            have HA : Hid (anyT (fun y => likB y x) (l.take (k + 1)) = false) := HS (hn hro)
            simp only [hro, rdV_none] at hr
            clear HS HH ho hn hz hro
            go_wp2_with (go_at_call 13; refine (hr _).mono ?_; rintro e w2 ⟨rfl, hb2⟩; have B2 : Hid (Below wr.heap.size wr w2) := hb2; clear hb2)
            go_roundw
            case rel => exact ⟨k + 1, by omega, by go_num, (hb.out.trans (B2.out.mono hb.out.size)).alloc (Nat.le_trans hb.out.size B2.out.size) _, HA⟩
            case measure => simp [intOf]; omega
          | some y =>
            have hy := hz hro
            have hlk' := fun W => hlk y W hy
            have HA : Hid (∀ c, likB y x = c → anyT (fun y => likB y x) [t] = c) := fun c h => (ho hro).trans h
            simp only [hro, rdV_some] at hr
            clear ho hn hz hro hlk
            generalize likB y x = ans at hlk' HA
            go_wp2_with fail
            refine (hr _).mono ?_
            rintro e w2 ⟨rfl, hb2⟩
            have B2 : Hid (Below w1.heap.size w1 w2) := hb.out.trans (hb2.mono hb.out.size)
            have T2 : Hid (TgB (w2.alloc (.cells #[.bool y.w, .string y.t] 25)) w.heap.size x) := (TR.out.kept hb2).alloc _
            have Y2 : Hid (TgB (w2.alloc (.cells #[.bool y.w, .string y.t] 25)) w2.heap.size y) := TgB.new w2 y 25
            have B3 : Hid (Below w1.heap.size w1 (w2.alloc (.cells #[.bool y.w, .string y.t] 25))) := B2.out.alloc B2.out.size _
            have c0 := T2.out.c0
            have c1 := T2.out.c1
            clear hb2 hr
            go_wp2_with fail
            refine (hlk' _).mono ?_
            rintro e w3 ⟨rfl, hb3⟩
            have B4 : Hid (Below w1.heap.size w1 w3) := B3.out.trans (hb3.mono B3.out.size)
            clear hb3 c0 c1 hlk'
            cases ans with
            | false =>
              have HA' : Hid (anyT (fun y => likB y x) (l.take (k + 1)) = false) := HS (HA.out false rfl)
              clear HS HH HA
              go_wp2
              go_roundw
              case rel => exact ⟨k + 1, by omega, by go_num, B4.out, HA'⟩
              case measure => simp [intOf]; omega
            | true =>
              have HA' : Hid (false = R) := HH (HA.out true rfl)
              clear HS HH HA
              go_wp2
              go_ret
              exact ⟨ret_bool HA'.out, B1.out.trans (B4.out.mono B1.out.size)⟩
        · have dl : decide ((k : Int) < (l.length : Int)) = false := decide_eq_false (by omega)
          have HE : Hid (true = R) := HL.out false (anyT_end hlt ha.out)
          have HB : Hid (Below w.heap.size w wr) := B1.out.trans (hb.out.mono B1.out.size)
          go_wp2
          go_ret
          exact ⟨ret_bool HE.out, HB.out⟩
set_option maxHeartbeats 2000000 in
theorem specAny (s : ByteArray) (x : Tg) (b : Bool) (w : World) (hs : s.size ≤ maxLen) (hx : x.t.size ≤ maxLen) :
    Calls Tryd.prog 23 #[.string s, tgV x, .bool b] w fun e w' => e = .returned (.bool (anyM s x b)) ∧ Below w.heap.size w w' := by
  have T0 : Hid (TgB (w.alloc (.cells #[.bool x.w, .string x.t] 25)) w.heap.size x) := TgB.new w x 25
  have B0 : Hid (Below w.heap.size w (w.alloc (.cells #[.bool x.w, .string x.t] 25))) := (Below.refl _ w).alloc (Nat.le_refl _) _
  by_cases hst : s = starS
  · have d := same_star hst
    have H : Hid (b = anyM s x b) := by show _ = anyM s x b; unfold anyM; rw [if_pos hst]
    generalize anyM s x b = R at H ⊢
    unfold tgV
    clear hst
    go_enter Tryd.func23, Tryd.ntmps23
    go_wp2
    go_ret
    exact ⟨ret_bool H.out, B0.out⟩
  · have d := diff_star hst
    have H : Hid (anyM s x b = (b && anyT (fun y => strB y x) (itemsA s))) := by show anyM s x b = _; unfold anyM; rw [if_neg hst]
    generalize anyM s x b = R at H ⊢
    have hit := fun W => specItems s W hs
    have hsz := items_size s
    have hlen : (itemsA s).length ≤ 1000 := by have := itemsA_length s; omega
    have hrd := fun (t : ByteArray) W (h : t ∈ itemsA s) => specRd t W (by have := hsz t h; unfold maxLen; omega)
    have hlk := fun (y : Tg) W (h : y.t.size ≤ 40) => specStr y x W (by unfold maxLen; omega) hx
    generalize itemsA s = l at H hit hsz hrd hlen
    clear hst
    unfold tgV at hlk ⊢
    cases b with
    | false =>
      have H' : Hid (false = R) := by rw [H.out]; rfl
      clear H hlk hrd
      go_enter Tryd.func23, Tryd.ntmps23
      go_wp2_with fail
      refine (hit _).mono ?_
      rintro e w1 ⟨v, rfl, ho, hb1⟩
      obtain ⟨⟨g, cap, rfl, hg0, hg1⟩, _⟩ := ho
      have B1 : Hid (Below w.heap.size w w1) := past7 B0.out hb1
      clear hb1
      go_wp2
      go_loop [8] (fun i => i = .int .i64 0) (fun i => 0)
      case atStart => rfl
      case round =>
        subst hrel
        by_cases hz : (0 : Int) < (l.length : Int)
        · have dz : decide ((0 : Int) < (l.length : Int)) = true := decide_eq_true hz
          go_wp2
          go_ret
          exact ⟨ret_bool H'.out, B1.out⟩
        · have dz : decide ((0 : Int) < (l.length : Int)) = false := decide_eq_false hz
          go_wp2
          go_ret
          exact ⟨ret_bool H'.out, B1.out⟩
    | true =>
      have HL : Hid (∀ c, anyT (fun y => strB y x) l = c → c = R) := fun c h => by rw [H.out, h]; rfl
      clear H
      have hll := hlen
      go_enter Tryd.func23, Tryd.ntmps23
      go_wp2_with fail
      refine (hit _).mono ?_
      rintro e w1 ⟨v, rfl, ho, hb1⟩
      have ho' := ho
      obtain ⟨⟨g, cap, rfl, hg0, hg1⟩, _⟩ := ho
      have O1 : Hid (∀ j (hj : j < l.length), w1.cell? ⟨g, j, none⟩ = some (.string l[j])) := ho'.at rfl
      have B1 : Hid (Below w.heap.size w w1) := past7 B0.out hb1
      have T1 : Hid (TgB w1 w.heap.size x) := T0.out.kept hb1
      have HG : Hid (g < w1.heap.size) := hg1
      clear hb1 ho' hg0 hg1 hit T0 B0
      go_wp2
      go_loopw [8] (fun i wr => ∃ k : Nat, k ≤ l.length ∧ i = .int .i64 k ∧ Hid (Below w1.heap.size w1 wr) ∧ Hid (anyT (fun y => strB y x) (l.take k) = false)) (fun i _ => l.length - (intOf i).toNat)
      case atStart => exact ⟨0, Nat.zero_le _, rfl, Below.refl _ _, rfl⟩
      case round =>
        obtain ⟨k, hk, rfl, hb, ha⟩ := hrel
        by_cases hlt : k < l.length
        · have hc : wr.cell? ⟨g, k, none⟩ = some (.string l[k]) := (hb.out.cell (p := ⟨g, k, none⟩) HG.out).trans (O1.out k hlt)
          have TR : Hid (TgB wr w.heap.size x) := T1.out.kept hb.out
          have hr := fun W => hrd l[k] W (List.getElem_mem hlt)
          have HS := fun h1 => anyT_step (p := fun y => strB y x) hlt ha.out h1
          have HH := fun h1 => HL.out true (anyT_hit (p := fun y => strB y x) hlt h1)
          have ho := @anyT_one_some (fun y => strB y x) l[k]
          have hn := @anyT_one_none (fun y => strB y x) l[k]
          have hz := @rdT_size l[k]
          have dl : decide ((k : Int) < (l.length : Int)) = true := decide_eq_true (by omega)
          generalize l[k] = t at hc hr HS HH ho hn hz
          cases hro : rdT t with
          | none =>
            have HA : Hid (anyT (fun y => strB y x) (l.take (k + 1)) = false) := HS (hn hro)
            simp only [hro, rdV_none] at hr
            clear HS HH ho hn hz hro
            go_wp2_with (go_at_call 13; refine (hr _).mono ?_; rintro e w2 ⟨rfl, hb2⟩; have B2 : Hid (Below wr.heap.size wr w2) := hb2; clear hb2)
            go_roundw
            case rel => exact ⟨k + 1, by omega, by go_num, (hb.out.trans (B2.out.mono hb.out.size)).alloc (Nat.le_trans hb.out.size B2.out.size) _, HA⟩
            case measure => simp [intOf]; omega
          | some y =>
            have hy := hz hro
            have hlk' := fun W => hlk y W hy
            have HA : Hid (∀ c, strB y x = c → anyT (fun y => strB y x) [t] = c) := fun c h => (ho hro).trans h
            simp only [hro, rdV_some] at hr
            clear ho hn hz hro hlk
            generalize strB y x = ans at hlk' HA
            go_wp2_with fail
            refine (hr _).mono ?_
            rintro e w2 ⟨rfl, hb2⟩
            have B2 : Hid (Below w1.heap.size w1 w2) := hb.out.trans (hb2.mono hb.out.size)
            have T2 : Hid (TgB (w2.alloc (.cells #[.bool y.w, .string y.t] 25)) w.heap.size x) := (TR.out.kept hb2).alloc _
            have Y2 : Hid (TgB (w2.alloc (.cells #[.bool y.w, .string y.t] 25)) w2.heap.size y) := TgB.new w2 y 25
            have B3 : Hid (Below w1.heap.size w1 (w2.alloc (.cells #[.bool y.w, .string y.t] 25))) := B2.out.alloc B2.out.size _
            have c0 := T2.out.c0
            have c1 := T2.out.c1
            clear hb2 hr
            go_wp2_with fail
            refine (hlk' _).mono ?_
            rintro e w3 ⟨rfl, hb3⟩
            have B4 : Hid (Below w1.heap.size w1 w3) := B3.out.trans (hb3.mono B3.out.size)
            clear hb3 c0 c1 hlk'
            cases ans with
            | false =>
              have HA' : Hid (anyT (fun y => strB y x) (l.take (k + 1)) = false) := HS (HA.out false rfl)
              clear HS HH HA
              go_wp2
              go_roundw
              case rel => exact ⟨k + 1, by omega, by go_num, B4.out, HA'⟩
              case measure => simp [intOf]; omega
            | true =>
              have HA' : Hid (true = R) := HH (HA.out true rfl)
              clear HS HH HA
              go_wp2
              go_ret
              exact ⟨ret_bool HA'.out, B1.out.trans (B4.out.mono B1.out.size)⟩
        · have dl : decide ((k : Int) < (l.length : Int)) = false := decide_eq_false (by omega)
          have HE : Hid (false = R) := HL.out false (anyT_end hlt ha.out)
          have HB : Hid (Below w.heap.size w wr) := B1.out.trans (hb.out.mono B1.out.size)
          go_wp2
          go_ret
          exact ⟨ret_bool HE.out, HB.out⟩
end Go.Proofs.YteeclocldjmgaaaDoor

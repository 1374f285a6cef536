/-
  The specification's tags by their contracts: TagOk, ShowTag, ReadTag, Strong, Alike.
-/
import Derived.Test.YteeclocldjmgaaaDoorTagP
import Derived.Test.YteeclocldjmgaaaDoorRows
import Derived.WalkKit
import Derived.WalkSpells
namespace Go.Proofs.YteeclocldjmgaaaDoor
open Go.RowKit
set_option linter.unusedVariables false

theorem past7 {w w1 w2 : World} (h : Below w.heap.size w w1) (hb : Below w1.heap.size w1 w2) : Below w.heap.size w w2 := h.trans (hb.mono h.size)
/-- A tag in a block. -/
structure TgB (w : World) (b : Nat) (x : Tg) : Prop where
  c0 : w.cell? ⟨b, 0, none⟩ = some (.bool x.w)
  c1 : w.cell? ⟨b, 1, none⟩ = some (.string x.t)
  fz : ∀ k, w.frozen? ⟨b, k, none⟩ = false
  hi : b < w.heap.size
theorem TgB.new (w : World) (x : Tg) (t : TypeId) : TgB (w.alloc (.cells #[.bool x.w, .string x.t] t)) w.heap.size x where
  c0 := World.cell?_alloc_mark _ _ _ _ _
  c1 := World.cell?_alloc_mark _ _ _ _ _
  fz := fun k => by rw [World.frozen?_alloc_mark]; simp
  hi := by simp
theorem TgB.kept {w w' : World} {b : Nat} {x : Tg} (h : TgB w b x) (hb : Below w.heap.size w w') : TgB w' b x := by
  have e : w'.heap[b]? = w.heap[b]? := hb.block b h.hi
  have k : ∀ k, w'.cell? ⟨b, k, none⟩ = w.cell? ⟨b, k, none⟩ := fun k => World.cell?_of_block (a := ⟨b, k, none⟩) e
  exact ⟨(k 0).trans h.c0, (k 1).trans h.c1, fun j => (World.frozen?_of_block (a := ⟨b, j, none⟩) e).trans (h.fz j), Nat.lt_of_lt_of_le h.hi hb.size⟩
theorem TgB.alloc {w : World} {b : Nat} {x : Tg} (h : TgB w b x) (o : Obj) : TgB (w.alloc o) b x := h.kept ((Below.refl _ w).alloc (Nat.le_refl _) o)

set_option maxHeartbeats 400000 in
theorem specTag (x : Tg) (w : World) (hs : x.t.size ≤ maxLen) :
    Calls Tryd.prog 27 #[tgV x] w fun e w' => e = .returned (.bool (tagB x.t)) ∧ Below w.heap.size w w' := by
  obtain ⟨wk, s⟩ := x
  unfold tgV
  simp only at hs ⊢
  unfold maxLen at hs
  have hb0 := (Below.refl _ w).alloc (Nat.le_refl _) (.cells #[.bool wk, .string s] 25)
  have B0 : Hid (Below w.heap.size w _) := hb0
  clear hb0
  by_cases h2 : 40 < s.size
  · have HF : Hid (false = tagB s) := tagB_out h2
    have d2 : decide (40 < (s.size : Int)) = true := by simp; omega
    go_enter Tryd.func27, Tryd.ntmps27
    go_wp2
    go_ret
    exact ⟨ret_bool HF.out, B0.out⟩
  · have d2 : decide (40 < (s.size : Int)) = false := by simp; omega
    go_enter Tryd.func27, Tryd.ntmps27
    go_wp2
    go_loop [3] (fun i => ∃ k : Nat, k ≤ s.size ∧ i = .int .i64 k ∧ Hid (allB tagN (s.data.toList.take k) = true)) (fun i => s.size - (intOf i).toNat)
    case atStart => exact ⟨0, Nat.zero_le _, rfl, allB_nil _ _⟩
    case round =>
      obtain ⟨k, hk, rfl, ha⟩ := hrel
      by_cases hlt : k < s.size
      · by_cases hl : (s[k].toNat : Int) < 33
        · have HF : Hid (false = tagB s) := tagB_in (by omega) (allB_not hlt (tagN_no (by omega)))
          go_wp2
          go_ret
          exact ⟨ret_bool HF.out, B0.out⟩
        · by_cases hg : 126 < (s[k].toNat : Int)
          · have HF : Hid (false = tagB s) := tagB_in (by omega) (allB_not hlt (tagN_no (by omega)))
            go_wp2
            go_ret
            exact ⟨ret_bool HF.out, B0.out⟩
          · by_cases hq : (s[k].toNat : Int) = 34
            · have HF : Hid (false = tagB s) := tagB_in (by omega) (allB_not hlt (tagN_no (by omega)))
              have dq : ((s[k].toNat : Int) == 34) = true := by rw [hq]; rfl
              clear hq
              go_wp2
              go_ret
              exact ⟨ret_bool HF.out, B0.out⟩
            · have HV : Hid (allB tagN (s.data.toList.take (k + 1)) = true) := allB_step hlt ha.out (tagN_yes (by omega))
              have dq : ((s[k].toNat : Int) == 34) = false := by simpa using hq
              go_wp2
              go_round
              case rel => exact ⟨k + 1, by omega, by go_num, HV⟩
              case measure => simp [intOf]; omega
      · have HT : Hid (true = tagB s) := tagB_in (by omega) (allB_end hlt ha.out)
        go_wp2
        go_ret
        exact ⟨ret_bool HT.out, B0.out⟩
theorem ret_txt {a b : ByteArray} (h : a = b) : Ending.returned (.string a) = .returned (.string b) := by rw [h]
theorem l7Show (x : Tg) (w : World) (hs : x.t.size ≤ 40) :
    Calls Tryd.prog 28 #[tgV x] w fun e w' => e = .returned (.string (shU x)) ∧ Below w.heap.size w w' := by
  obtain ⟨wk, s⟩ := x
  unfold tgV
  simp only at hs ⊢
  have B0 : Hid (Below w.heap.size w (w.alloc (.cells #[.bool wk, .string s] 25))) := (Below.refl _ w).alloc (Nat.le_refl _) _
  have z1 : ((⟨#[34]⟩ : ByteArray) ++ s).size = 1 + s.size := by rw [ByteArray.size_append]; rfl
  have z2 : ((⟨#[34]⟩ : ByteArray) ++ s ++ (⟨#[34]⟩ : ByteArray)).size = 1 + s.size + 1 := by rw [ByteArray.size_append, z1]; rfl
  cases wk with
  | false =>
    have HT : Hid ((⟨#[34]⟩ : ByteArray) ++ s ++ (⟨#[34]⟩ : ByteArray) = shU ⟨false, s⟩) := rfl
    go_enter Tryd.func28, Tryd.ntmps28
    go_wp2
    go_ret
    exact ⟨ret_txt HT.out, B0.out⟩
  | true =>
    have HT : Hid ((⟨#[87, 47]⟩ : ByteArray) ++ ((⟨#[34]⟩ : ByteArray) ++ s ++ (⟨#[34]⟩ : ByteArray)) = shU ⟨true, s⟩) := rfl
    go_enter Tryd.func28, Tryd.ntmps28
    go_wp2
    go_ret
    exact ⟨ret_txt HT.out, B0.out⟩
theorem specSh (x : Tg) (w : World) (hs : x.t.size ≤ maxLen) :
    Calls Tryd.prog 9 #[tgV x] w fun e w' => e = .returned (.string (shT x)) ∧ Below w.heap.size w w' := by
  have hk := fun W => specTag x W hs
  have hu := fun W h => l7Show x W h
  have hy := @shT_yes x
  have hn := @shT_no x
  have hz := @tagB_size x.t
  have T0 := TgB.new w x 25
  have B0 : Hid (Below w.heap.size w (w.alloc (.cells #[.bool x.w, .string x.t] 25))) := (Below.refl _ w).alloc (Nat.le_refl _) _
  unfold tgV at hk hu ⊢
  generalize shT x = A at hy hn ⊢
  generalize shU x = U at hy hu
  generalize tagB x.t = ok at hk hy hn hz
  obtain ⟨wk, s⟩ := x
  simp only at *
  have T0 : Hid (TgB _ w.heap.size ⟨wk, s⟩) := T0
  go_enter Tryd.func9, Tryd.ntmps9
  go_wp2_with fail
  refine (hk _).mono ?_
  rintro e w1 ⟨rfl, hb1⟩
  have B1 : Hid (Below w.heap.size w w1) := past7 B0.out hb1
  have T1 : Hid (TgB w1 w.heap.size ⟨wk, s⟩) := T0.out.kept hb1
  clear hb1 B0 T0 hk
  cases ok with
  | false =>
    have HA : Hid (⟨#[]⟩ = A) := (hn rfl).symm
    clear hn hy hz
    go_wp2
    go_ret
    exact ⟨ret_txt HA.out, B1.out⟩
  | true =>
    have HA : Hid (U = A) := (hy rfl).symm
    have hu' := fun W => hu W (hz rfl)
    have c0 := T1.out.c0
    have c1 := T1.out.c1
    clear hn hy hz hu
    go_wp2_with (go_at_call 28; refine (hu' _).mono ?_; rintro e w2 ⟨rfl, hb2⟩)
    go_ret
    exact ⟨ret_txt HA.out, past7 B1.out hb2⟩
end Go.Proofs.YteeclocldjmgaaaDoor

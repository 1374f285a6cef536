/-
  The specification's Total and Cut by their contracts.
-/
import Derived.Test.YtamfgjgmnnnjpaaDoorSpnC
namespace Go.Proofs.YtamfgjgmnnnjpaaDoor
open Go.RowKit Go.Sort
set_option linter.unusedVariables false

theorem ret_int8 {a b : Int} (h : a = b) : Ending.returned (.int .i64 a) = .returned (.int .i64 b) := by rw [h]
theorem sum_take {l : List Sp} {j : Nat} (h1 : ∀ x ∈ l, 0 ≤ x.1 ∧ x.1 ≤ x.2) (hl : l.length ≤ 10) (hw : wideS (l.take j) = false) : 0 ≤ sumS (l.take j) ∧ sumS (l.take j) ≤ 10995116277760 := by
  have := sumS_bound (fun x hx => h1 x (List.mem_of_mem_take hx)) hw
  have h2 : (l.take j).length ≤ 10 := by rw [List.length_take]; omega
  omega
/-- What Cut answers. -/
def cutS (b : ByteArray) (x : Sp) : ByteArray := if spB x = true ∧ x.2 < b.size then b.extract x.1.toNat (x.2 + 1).toNat else ⟨#[]⟩
theorem cutS_no {b : ByteArray} {x : Sp} (h : ¬ (spB x = true ∧ x.2 < b.size)) : cutS b x = ⟨#[]⟩ := by unfold cutS; rw [if_neg h]
theorem cutS_yes {b : ByteArray} {x : Sp} (h1 : spB x = true) (h2 : x.2 < b.size) : cutS b x = b.extract x.1.toNat (x.2 + 1).toNat := by unfold cutS; rw [if_pos ⟨h1, h2⟩]
theorem ret_txt8 {a b : ByteArray} (h : a = b) : Ending.returned (.string a) = .returned (.string b) := by rw [h]
set_option maxHeartbeats 1000000 in
theorem specCut (b : ByteArray) (x : Sp) (w : World) (hb : b.size ≤ maxLen) (hr : InR x) :
    Calls Tryd.prog 14 #[.string b, spV x] w fun e w' => e = .returned (.string (cutS b x)) ∧ Below w.heap.size w w' := by
  have hk := fun W => specSpn x W
  have hn := @cutS_no b x
  have hy := @cutS_yes b x
  have hi := @spB_iff x
  unfold maxLen at hb
  obtain ⟨p, q⟩ := x
  obtain ⟨⟨r1, r2⟩, r3, r4⟩ := hr
  simp only at r1 r2 r3 r4 hi hn hy
  have B0 : Hid (Below w.heap.size w (w.alloc (.cells #[.int .i64 p, .int .i64 q] 30))) := (Below.refl _ w).alloc (Nat.le_refl _) _
  have c0 : Hid (∀ W, Below (w.heap.size + 1) (w.alloc (.cells #[.int .i64 p, .int .i64 q] 30)) W → W.cell? ⟨w.heap.size, 0, Option.none⟩ = some (.int .i64 p) ∧ W.cell? ⟨w.heap.size, 1, Option.none⟩ = some (.int .i64 q)) := fun W hW => by
    constructor
    · exact (hW.cell (p := ⟨w.heap.size, 0, Option.none⟩) (Nat.lt_succ_self _)).trans (World.cell?_alloc_mark _ _ _ _ _)
    · exact (hW.cell (p := ⟨w.heap.size, 1, Option.none⟩) (Nat.lt_succ_self _)).trans (World.cell?_alloc_mark _ _ _ _ _)
  unfold spV at hk ⊢
  generalize cutS b (p, q) = R at hn hy ⊢
  generalize spB (p, q) = ok at hk hn hy hi
  go_enter Tryd.func14, Tryd.ntmps14
  go_wp2_with fail
  refine (hk _).mono ?_
  rintro e w1 ⟨rfl, hb1⟩
  have B1 : Hid (Below w.heap.size w w1) := B0.out.trans (hb1.mono (by simp))
  obtain ⟨d0, d1⟩ := c0.out w1 (by simpa using hb1)
  clear hk hb1 c0
  cases ok with
  | false =>
    have HR : Hid (⟨#[]⟩ = R) := (hn (fun h => by cases h.1)).symm
    clear hn hy hi
    go_wp2
    go_ret
    exact ⟨ret_txt8 HR.out, B1.out⟩
  | true =>
    have hpq := hi.1 rfl
    by_cases hlt : q < b.size
    · have HR : Hid (b.extract p.toNat (q + 1).toNat = R) := (hy rfl hlt).symm
      have dl : decide ((b.size : Int) ≤ q) = false := decide_eq_false (by omega)
      clear hn hy hi
      obtain ⟨p, rfl⟩ := Int.eq_ofNat_of_zero_le hpq.1
      obtain ⟨q, rfl⟩ := Int.eq_ofNat_of_zero_le (show 0 ≤ q by omega)
      have e1 : ((q : Int) + 1).toNat = q + 1 := by omega
      have e2 : ((p : Int)).toNat = p := by omega
      rw [e1, e2] at HR
      go_wp2
      go_ret
      exact ⟨ret_txt8 HR.out, B1.out⟩
    · have HR : Hid (⟨#[]⟩ = R) := (hn (fun h => hlt h.2)).symm
      have dl : decide ((b.size : Int) ≤ q) = true := decide_eq_true (by omega)
      clear hn hy hi
      go_wp2
      go_ret
      exact ⟨ret_txt8 HR.out, B1.out⟩
end Go.Proofs.YtamfgjgmnnnjpaaDoor

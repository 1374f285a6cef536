/-
  The program's Total and Cut by their contracts.
-/
import Derived.Test.YtamfgjgmnnnjpaaDoorSpnW
import Derived.Test.YtamfgjgmnnnjpaaDoorSpnD
import Derived.Test.YtamfgjgmnnnjpaaDoorShelfE
namespace Go.Proofs.YtamfgjgmnnnjpaaDoor
open Go.RowKit Go.Sort
set_option linter.unusedVariables false

theorem low_alloc {w w1 : World} (h : Below w.heap.size w w1) (o : Obj) : Below w.heap.size w (w1.alloc o) := h.alloc h.size o
theorem cloneS (s : ByteArray) (w : World) (h : s.size ≤ 1048576) :
    Calls Tryd.prog 38 #[.string s] w fun e w' => e = .returned (.string s) ∧ Below w.heap.size w w' := by
  go_enter Tryd.func38, Tryd.ntmps38
  go_wp2_with (go_at_call 57; refine (Tryd.stringslite_Clone s _ (by omega)).mono ?_; rintro e w1 ⟨rfl, hb1⟩)
  go_ret
  exact ⟨rfl, hb1⟩
set_option maxHeartbeats 1000000 in
theorem implCut (b : ByteArray) (x : Sp) (w : World) (hb : b.size ≤ 1048576) (hr : InR x) :
    Calls Tryd.prog 13 #[.string b, spV x] w fun e w' => e = .returned (.string (cutS b x)) ∧ Below w.heap.size w w' := by
  have hk := fun W => implSpn x W
  have hn := @cutS_no b x
  have hy := @cutS_yes b x
  have hi := @spB_iff x
  obtain ⟨p, q⟩ := x
  obtain ⟨⟨r1, r2⟩, r3, r4⟩ := hr
  simp only at r1 r2 r3 r4 hi hn hy
  have B0 : Hid (Below w.heap.size w (w.alloc (.cells #[.int .i64 p, .int .i64 q] 30))) := (Below.refl _ w).alloc (Nat.le_refl _) _
  have c0 : Hid (∀ W, Below (w.heap.size + 1) (w.alloc (.cells #[.int .i64 p, .int .i64 q] 30)) W → W.cell? ⟨w.heap.size, 0, Option.none⟩ = some (.int .i64 p) ∧ W.cell? ⟨w.heap.size, 1, Option.none⟩ = some (.int .i64 q)) := fun W hW => by
    constructor
    · exact (hW.cell (p := ⟨w.heap.size, 0, Option.none⟩) (Nat.lt_succ_self _)).trans (World.cell?_alloc_mark _ _ _ _ _)
    · exact (hW.cell (p := ⟨w.heap.size, 1, Option.none⟩) (Nat.lt_succ_self _)).trans (World.cell?_alloc_mark _ _ _ _ _)
  unfold spV at hk ⊢
  generalize cutS b (p, q) = R at hn hy ⊢
  generalize spB (p, q) = ok at hk hn hy hi
  go_enter Tryd.func13, Tryd.ntmps13
  go_wp2_with fail
  refine (hk _).mono ?_
  rintro e w1 ⟨rfl, hg1⟩
  have B1 : Hid (Below w.heap.size w w1) := B0.out.trans (hg1.1.mono (by simp))
  obtain ⟨d0, d1⟩ := c0.out w1 (by simpa using hg1.1)
  clear hk hg1 c0
  cases ok with
  | false =>
    have HR : Hid (⟨#[]⟩ = R) := (hn (fun h => by cases h.1)).symm
    clear hn hy hi
    go_wp2
    go_ret
    exact ⟨ret_txt8 HR.out, B1.out⟩
  | true =>
    have hpq := hi.1 rfl
    by_cases hlt : q < b.size
    · have HR : Hid (b.extract p.toNat (q + 1).toNat = R) := (hy rfl hlt).symm
      have dl : decide ((b.size : Int) ≤ q) = false := decide_eq_false (by omega)
      clear hn hy hi
      obtain ⟨p, rfl⟩ := Int.eq_ofNat_of_zero_le hpq.1
      obtain ⟨q, rfl⟩ := Int.eq_ofNat_of_zero_le (show 0 ≤ q by omega)
      have e1 : ((q : Int) + 1).toNat = q + 1 := by omega
      have e2 : ((p : Int)).toNat = p := by omega
      rw [e1, e2] at HR
      have hcl := fun W => cloneS (b.extract p (q + 1)) W (by rw [ByteArray.size_extract]; omega)
      go_wp2_with (go_at_call 38; refine (hcl _).mono ?_; rintro e w2 ⟨rfl, hb2⟩; have HB2 : Hid _ := hb2; clear hb2)
      go_ret
      exact ⟨ret_txt8 HR.out, B1.out.trans (HB2.out.mono B1.out.size)⟩
    · have HR : Hid (⟨#[]⟩ = R) := (hn (fun h => hlt h.2)).symm
      have dl : decide ((b.size : Int) ≤ q) = true := decide_eq_true (by omega)
      clear hn hy hi
      go_wp2
      go_ret
      exact ⟨ret_txt8 HR.out, B1.out⟩
end Go.Proofs.YtamfgjgmnnnjpaaDoor

/-
  The program's spans in order: a stable sort of at most ten is one run of insertions; inOrder.
-/
import Derived.Test.YtamfgjgmnnnjpaaSpnU
namespace Go.Proofs.Ytamfgjgmnnnjpaa
open Go.RowKit Go.Sort
set_option linter.unusedVariables false

set_option maxHeartbeats 1000000 in
theorem implStb (B : Nat) (v : Value) (l : List Sp) (w : World) (h : OwnsS8 w B v l) (hl : l.length ≤ 10) :
    Calls Try.prog 41 #[v, .int .i64 (l.length : Int), .func (.func 26) #[] #[]] w fun e w' => e = .returned (.tuple #[]) ∧ Srtd B v l w w' := by
  have hk := implIns B v l w h hl
  obtain ⟨a, cap, rfl, _, _, _⟩ := h.form
  clear h
  generalize hS : Srtd B (.slice a l.length cap) l = S at hk ⊢
  clear hS
  generalize l.length = n at hl hk ⊢
  go_enter Try.func41, Try.ntmps41
  go_wp2
  go_loopw [7, 8] (fun x y wr => x = .int .i64 0 ∧ y = .int .i64 20 ∧ wr = w) (fun _ _ _ => 0)
  case atStart => exact ⟨rfl, rfl, rfl⟩
  case round =>
    obtain ⟨rfl, rfl, rfl⟩ := hrel
    go_wp2_with fail
    refine hk.mono ?_
    rintro e w1 ⟨rfl, hs⟩
    have HS : Hid _ := hs
    clear hs hk
    go_wp2
    go_loopw [6, 7, 8] (fun z x y wr2 => z = .int .i64 20 ∧ wr2 = w1) (fun _ _ _ _ => 0)
    case atStart => exact ⟨rfl, rfl⟩
    case round =>
      obtain ⟨rfl, rfl⟩ := hrel
      go_wp2
      go_end0
      exact ⟨rfl, HS.out⟩
theorem implStf (B : Nat) (v : Value) (l : List Sp) (w : World) (h : OwnsS8 w B v l) (hl : l.length ≤ 10) :
    Calls Try.prog 37 #[v, .func (.func 26) #[] #[]] w fun e w' => e = .returned (.tuple #[]) ∧ Srtd B v l w w' := by
  have hk := implStb B v l w h hl
  obtain ⟨a, cap, rfl, _, _, _⟩ := h.form
  clear h
  generalize hS : Srtd B (.slice a l.length cap) l = S at hk ⊢
  clear hS
  go_enter Try.func37, Try.ntmps37
  go_wp2_with (go_at_call 41; refine hk.mono ?_; rintro e w1 ⟨rfl, hs⟩)
  go_end0
  exact ⟨rfl, hs⟩
theorem implOrd (v : Value) (l : List Sp) (w : World) (h : Sls spnE w v l) (hl : l.length ≤ 10) :
    Calls Try.prog 25 #[v, .func (.func 26) #[] #[]] w fun e w' => ∃ u l', e = .returned u ∧ l'.Perm l ∧ Ris l' ∧ OwnsS8 w' w.heap.size u l' ∧ Below w.heap.size w w' := by
  have hk := implCln v l w h hl
  have hs := fun u W hW => implStf w.heap.size u l W hW hl
  obtain ⟨a, cap, rfl, _, _, _⟩ := h
  go_enter Try.func25, Try.ntmps25
  go_wp2_with fail
  refine hk.mono ?_
  rintro e w1 ⟨u, rfl, ho, hb⟩
  have HB : Hid (Below w.heap.size w w1) := hb
  have HO : Hid (OwnsS8 w1 w.heap.size u l) := ho
  clear ho hb hk
  go_wp2_with fail
  refine (hs _ _ HO.out).mono ?_
  rintro e w2 ⟨rfl, l', hp, hr, ho2, hb2⟩
  have H2 : Hid (∃ u' l', Ending.returned u = Ending.returned u' ∧ l'.Perm l ∧ Ris l' ∧ OwnsS8 w2 w.heap.size u' l' ∧ Below w.heap.size w w2) := ⟨u, l', rfl, hp, hr, ho2, HB.out.trans hb2⟩
  clear hp hr ho2 hb2 HB HO hs
  go_wp2
  go_ret
  exact H2.out
end Go.Proofs.Ytamfgjgmnnnjpaa

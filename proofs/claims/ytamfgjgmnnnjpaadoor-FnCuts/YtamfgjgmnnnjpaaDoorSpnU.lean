/-
  The program's spans in order: the library's sort of a copy.
-/
import Derived.Test.YtamfgjgmnnnjpaaDoorSpnT
import Derived.Test.YtamfgjgmnnnjpaaDoorSrtK
import Derived.Test.YtamfgjgmnnnjpaaDoorShelfJ
namespace Go.Proofs.YtamfgjgmnnnjpaaDoor
open Go.RowKit Go.Sort
set_option linter.unusedVariables false

theorem ltS (x y : Sp) : ltOf cmpS x y = decide (x.1 < y.1) := by
  unfold ltOf cmpS
  by_cases h1 : x.1 < y.1
  · simp [h1]
  · by_cases h2 : y.1 < x.1 <;> simp [h1, h2]
theorem swoS : SWO (ltOf cmpS) where
  irrefl x := by rw [ltS]; simp
  trans x y z h1 h2 := by rw [ltS] at *; simp at *; omega
  ntrans x y z h1 h2 := by rw [ltS] at *; simp at *; omega
theorem cmpLS (blk off size : Nat) (w : World) : CmpLays Tryd.prog 43 #[] spnE.c 2 cmpS blk off size w :=
  fun _ _ _ _ x y => (implBy x y _).mono fun _ _ ⟨he, hg⟩ => ⟨he, hg.out⟩
theorem sorted_list {l : List Sp} {d : Array Sp} (hp : PermIn 0 l.toArray.size l.toArray d) (hs : SortedIn (ltOf cmpS) 0 l.toArray.size d) : d.size = l.length ∧ d.toList.Perm l ∧ Ris d.toList := by
  obtain ⟨h1, _, h3⟩ := hp
  have hsz : d.size = l.length := by rw [h1]; simp
  refine ⟨hsz, ?_, ?_⟩
  · have e1 : d.extract 0 l.toArray.size = d := by rw [← h1]; simp
    have e2 : l.toArray.extract 0 l.toArray.size = l.toArray := by simp
    rw [e1, e2] at h3
    exact h3
  · refine List.pairwise_iff_getElem.2 fun i j hi hj hij => ?_
    simp only [Array.length_toList] at hi hj
    have k := hs i j (Nat.zero_le _) hij (by rw [← h1]; exact hj)
    rw [ltS, getElem!_pos d i hi, getElem!_pos d j hj] at k
    have k2 := of_decide_eq_false k
    simp only [Array.getElem_toList]
    omega
/-- What a sort of the row v, which holds l, leaves. -/
def Srtd (B : Nat) (v : Value) (l : List Sp) (w w' : World) : Prop := ∃ l', l'.Perm l ∧ Ris l' ∧ OwnsS8 w' B v l' ∧ Below B w w'
theorem implIns (B : Nat) (v : Value) (l : List Sp) (w : World) (h : OwnsS8 w B v l) (hl : l.length ≤ 10) :
    Calls Tryd.prog 81 #[v, .int .i64 0, .int .i64 (l.length : Int), .func (.func 43) #[] #[]] w fun e w' => e = .returned (.tuple #[]) ∧ Srtd B v l w w' := by
  obtain ⟨a, cap, rfl, h1, h2, h3⟩ := h.form
  rcases h3 with ⟨rfl, rfl⟩ | ⟨g, rfl⟩
  · obtain rfl : l = [] := List.eq_nil_of_length_eq_zero (by omega)
    have HO : Hid (Srtd B (.slice Option.none 0 0) [] w w) := ⟨[], List.Perm.refl _, List.Pairwise.nil, h, Below.refl _ _⟩
    clear h h1 h2 hl
    simp only [List.length_nil, Int.natCast_zero] at *
    go_enter Tryd.func81, Tryd.ntmps81
    go_wp2
    go_loopw [8] (fun i wr => i = .int .i64 1 ∧ wr = w) (fun _ _ => 0)
    case atStart => exact ⟨rfl, rfl⟩
    case round =>
      obtain ⟨rfl, rfl⟩ := hrel
      go_wp2
      go_end0
      exact ⟨rfl, HO.out⟩
  · have eg : ∀ args w, (callFunc 43 args).run Tryd.prog w = .ok (.enter 43 args) w := enters_of Tryd.func43 (by kernel_rfl) rfl
    have hg := h.under g rfl
    have hB := h.from g rfl
    have hcon := AnyQ.insertionSortCmpFunc Tryd.laysIns 2 Tryd.isAgg30 Tryd.sizeOf30 spnE.c (fun _ => rfl) spnE.one cmpS 43 #[] g 0 cap 0 l.toArray.size l.toArray w eg (cmpLS g 0 l.toArray.size w) (h.holds rfl) hg (Nat.zero_le _) (Nat.le_refl _) (by simp; omega)
    have hq := insertionSort_holds (lt := ltOf cmpS) swoS l.toArray 0 l.toArray.size (Nat.zero_le _) (Nat.le_refl _)
    obtain ⟨k1, k2, k3⟩ := sorted_list hq.1 hq.2
    refine hcon.mono ?_
    rintro e w' ⟨rfl, n, os, rfl⟩
    exact ⟨rfl, _, k2, k3, h.sorted rfl n _ os k1, sorted_below spnE n _ os hB hg⟩
end Go.Proofs.YtamfgjgmnnnjpaaDoor
namespace Go.Proofs.YtamfgjgmnnnjpaaDoor
open Go.RowKit Go.Sort
set_option linter.unusedVariables false

set_option maxHeartbeats 1000000 in
theorem implStb (B : Nat) (v : Value) (l : List Sp) (w : World) (h : OwnsS8 w B v l) (hl : l.length ≤ 10) :
    Calls Tryd.prog 71 #[v, .int .i64 (l.length : Int), .func (.func 43) #[] #[]] w fun e w' => e = .returned (.tuple #[]) ∧ Srtd B v l w w' := by
  have hk := implIns B v l w h hl
  obtain ⟨a, cap, rfl, _, _, _⟩ := h.form
  clear h
  generalize hS : Srtd B (.slice a l.length cap) l = S at hk ⊢
  clear hS
  generalize l.length = n at hl hk ⊢
  go_enter Tryd.func71, Tryd.ntmps71
  go_wp2
  go_loopw [7, 8] (fun x y wr => x = .int .i64 0 ∧ y = .int .i64 20 ∧ wr = w) (fun _ _ _ => 0)
  case atStart => exact ⟨rfl, rfl, rfl⟩
  case round =>
    obtain ⟨rfl, rfl, rfl⟩ := hrel
    go_wp2_with fail
    refine hk.mono ?_
    rintro e w1 ⟨rfl, hs⟩
    have HS : Hid _ := hs
    clear hs hk
    go_wp2
    go_loopw [6, 7, 8] (fun z x y wr2 => z = .int .i64 20 ∧ wr2 = w1) (fun _ _ _ _ => 0)
    case atStart => exact ⟨rfl, rfl⟩
    case round =>
      obtain ⟨rfl, rfl⟩ := hrel
      go_wp2
      go_end0
      exact ⟨rfl, HS.out⟩
theorem implStf (B : Nat) (v : Value) (l : List Sp) (w : World) (h : OwnsS8 w B v l) (hl : l.length ≤ 10) :
    Calls Tryd.prog 60 #[v, .func (.func 43) #[] #[]] w fun e w' => e = .returned (.tuple #[]) ∧ Srtd B v l w w' := by
  have hk := implStb B v l w h hl
  obtain ⟨a, cap, rfl, _, _, _⟩ := h.form
  clear h
  generalize hS : Srtd B (.slice a l.length cap) l = S at hk ⊢
  clear hS
  go_enter Tryd.func60, Tryd.ntmps60
  go_wp2_with (go_at_call 71; refine hk.mono ?_; rintro e w1 ⟨rfl, hs⟩)
  go_end0
  exact ⟨rfl, hs⟩
theorem implOrd (v : Value) (l : List Sp) (w : World) (h : Sls spnE w v l) (hl : l.length ≤ 10) :
    Calls Tryd.prog 42 #[v, .func (.func 43) #[] #[]] w fun e w' => ∃ u l', e = .returned u ∧ l'.Perm l ∧ Ris l' ∧ OwnsS8 w' w.heap.size u l' ∧ Below w.heap.size w w' := by
  have hk := implCln v l w h hl
  have hs := fun u W hW => implStf w.heap.size u l W hW hl
  obtain ⟨a, cap, rfl, _, _, _⟩ := h
  go_enter Tryd.func42, Tryd.ntmps42
  go_wp2_with fail
  refine hk.mono ?_
  rintro e w1 ⟨u, rfl, ho, hb⟩
  have HB : Hid (Below w.heap.size w w1) := hb
  have HO : Hid (OwnsS8 w1 w.heap.size u l) := ho
  clear ho hb hk
  go_wp2_with fail
  refine (hs _ _ HO.out).mono ?_
  rintro e w2 ⟨rfl, l', hp, hr, ho2, hb2⟩
  have H2 : Hid (∃ u' l', Ending.returned u = Ending.returned u' ∧ l'.Perm l ∧ Ris l' ∧ OwnsS8 w2 w.heap.size u' l' ∧ Below w.heap.size w w2) := ⟨u, l', rfl, hp, hr, ho2, HB.out.trans hb2⟩
  clear hp hr ho2 hb2 HB HO hs
  go_wp2
  go_ret
  exact H2.out
end Go.Proofs.YtamfgjgmnnnjpaaDoor

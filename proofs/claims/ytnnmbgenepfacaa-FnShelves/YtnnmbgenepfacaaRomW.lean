/-
  How much a Shelf holds; the walk of the exact law of ShelfOk, given what the program's own function answers.
-/
import Derived.Test.YtnnmbgenepfacaaRomV
namespace Go.Proofs.Ytnnmbgenepfacaa
open Go.RowKit Go.Sort Rom
set_option linter.unusedVariables false
set_option linter.unusedSimpArgs false

def szK (l : List It) : Nat := (l.map (fun x => x.1.size)).sum
theorem szK_next {l : List It} {k : Nat} (h : k < l.length) : szK (l.take (k + 1)) = szK (l.take k) + l[k].1.size := by
  unfold szK
  rw [List.take_succ_eq_append_getElem h, List.map_append, List.sum_append]
  simp
theorem szK_le (l : List It) (k : Nat) : szK (l.take k) ≤ szK l := by
  unfold szK
  conv => rhs; rw [← List.take_append_drop k l, List.map_append, List.sum_append]
  omega
theorem szK_mem {l : List It} {x : It} (h : x ∈ l) : x.1.size ≤ szK l := by
  obtain ⟨k, hk, rfl⟩ := List.getElem_of_mem h
  have h1 := szK_next hk
  have h2 := szK_le l (k + 1)
  omega
def szV (l : List It) : Int := if l.length + szK l ≤ 1048576 then 1048576 - ((l.length + szK l : Nat) : Int) else -1
theorem szIt1 (x : It) (n : Int) (h0 : 0 ≤ n) (h1 : n ≤ 1048576) (w : World) (hs : x.1.size ≤ maxLen) :
    Calls Try.prog 94 #[itV x, .int .i64 n] w fun e w' => e = .returned (.int .i64 (if (x.1.size : Int) ≤ n then n - (x.1.size : Int) else -1)) ∧ Below w.heap.size w w' := by
  have hm := hs
  unfold maxLen at hm
  unfold itV
  have ew : IntKind.i64.wrap (n - (x.1.size : Int)) = n - (x.1.size : Int) := by rw [IntKind.wrap_i64]; omega
  have B0 : Hid (Below w.heap.size w (w.alloc (.cells #[.string x.1, .int .i64 x.2] 112))) := (Below.refl _ w).alloc (Nat.le_refl _) _
  by_cases h : (x.1.size : Int) ≤ n
  · rw [if_pos h]
    have h2 : ¬ (n - (x.1.size : Int) < 0) := by omega
    go_enter Try.func94, Try.ntmps94
    go_wp2
    go_ret
    exact ⟨rfl, B0.out⟩
  · rw [if_neg h]
    have h2 : n - (x.1.size : Int) < 0 := by omega
    go_enter Try.func94, Try.ntmps94
    go_wp2
    go_ret
    exact ⟨rfl, B0.out⟩
set_option maxHeartbeats 1000000 in
theorem szItS (v : Value) (l : List It) (w : World) (h : Sls itE w v l) (hs : ∀ x ∈ l, x.1.size ≤ maxLen) :
    Calls Try.prog 77 #[v, .int .i64 1048576] w fun e w' => e = .returned (.int .i64 (szV l)) ∧ Below w.heap.size w w' := by
  obtain ⟨a, cap, rfl, h1, h2, h3⟩ := h.itm
  unfold maxLen at h2
  have ew : IntKind.i64.wrap (1048576 - (l.length : Int)) = 1048576 - (l.length : Int) := by rw [IntKind.wrap_i64]; omega
  obtain ⟨V, hV⟩ : ∃ V, V = szV l := ⟨_, rfl⟩
  rw [← hV]
  have HV : Hid (V = szV l) := hV
  clear h hV
  by_cases hlen : l.length ≤ 1048576
  · have hn : ¬ (1048576 - (l.length : Int) < 0) := by omega
    go_enter Try.func77, Try.ntmps77
    go_wp2_with fail
    go_loopw [1, 5] (fun m i wr => ∃ k : Nat, k ≤ l.length ∧ i = .int .i64 k ∧ m = .int .i64 (1048576 - ((l.length + szK (l.take k) : Nat) : Int)) ∧ l.length + szK (l.take k) ≤ 1048576 ∧ Hid (Below w.heap.size w wr)) (fun _ i _ => l.length - (intOf i).toNat)
    case atStart => exact ⟨0, Nat.zero_le _, rfl, by simp [szK], by simp [szK]; omega, (show Hid _ from Below.refl _ _)⟩
    case round =>
      obtain ⟨k, hk, rfl, rfl, hle, hb⟩ := hrel
      obtain ⟨wk, rfl⟩ : ∃ z, z = wr := ⟨wr, rfl⟩
      by_cases hlt : k < l.length
      · have hki : (k : Int) < (l.length : Int) := by omega
        obtain ⟨g, o, rfl, hg, hc⟩ := h3 (by omega)
        have c1 := (hb.out.cell (p := ⟨g, o + k * 2, Option.none⟩) hg).trans (hc k hlt).1
        have c2 := (hb.out.cell (p := ⟨g, o + k * 2 + 1, Option.none⟩) hg).trans (hc k hlt).2
        have hnx := szK_next hlt
        have hup := szK_le l (k + 1)
        obtain ⟨n, hn0⟩ : ∃ n, n = (1048576 : Int) - ((l.length + szK (l.take k) : Nat) : Int) := ⟨_, rfl⟩
        have hn1 : 0 ≤ n ∧ n ≤ 1048576 := by omega
        have hI := fun W => szIt1 l[k] n hn1.1 hn1.2 W (hs _ (List.getElem_mem hlt))
        unfold itV at hI
        rw [← hn0]
        have HN0 : Hid (n = (1048576 : Int) - ((l.length + szK (l.take k) : Nat) : Int)) := hn0
        have HNX : Hid (szK (l.take (k + 1)) = szK (l.take k) + l[k].1.size) := hnx
        have HUP : Hid (szK (l.take (k + 1)) ≤ szK l) := hup
        by_cases hf : (l[k].1.size : Int) ≤ n
        · rw [if_pos hf] at hI
          have hq : ¬ (n - (l[k].1.size : Int) < 0) := by omega
          clear hn0 hnx hup hc h3 ew hn
          go_wp2_with fail
          refine (hI _).mono ?_
          rintro e w1 ⟨rfl, hb1⟩
          have B1 : Hid (Below w.heap.size w w1) := hb.out.trans (hb1.mono hb.out.size)
          clear hb1
          go_wp2_with fail
          go_roundw
          case rel => exact ⟨k + 1, by omega, by go_num, by have := HN0.out; have := HNX.out; congr 1; omega, by have := HN0.out; have := HNX.out; omega, B1⟩
          case measure => simp [intOf]; omega
        · rw [if_neg hf] at hI
          have HE : Hid (-1 = V) := by show _ = _; rw [HV.out]; unfold szV; rw [if_neg (by omega)]
          clear hn0 hnx hup hc h3 ew hn
          go_wp2_with fail
          refine (hI _).mono ?_
          rintro e w1 ⟨rfl, hb1⟩
          have B1 : Hid (Below w.heap.size w w1) := hb.out.trans (hb1.mono hb.out.size)
          clear hb1
          go_wp2
          go_ret
          exact ⟨congrArg (fun z => Ending.returned (.int .i64 z)) HE.out, B1.out⟩
      · obtain rfl : k = l.length := by omega
        have HE : Hid ((1048576 : Int) - ((l.length + szK (l.take l.length) : Nat) : Int) = V) := by
          show _ = _
          have et : l.take l.length = l := List.take_of_length_le (Nat.le_refl _)
          rw [et] at hle ⊢
          rw [HV.out]
          unfold szV
          rw [if_pos hle]
        generalize (1048576 : Int) - ((l.length + szK (l.take l.length) : Nat) : Int) = Z at HE ⊢
        go_wp2
        go_ret
        exact ⟨congrArg (fun z => Ending.returned (.int .i64 z)) HE.out, hb.out⟩
  · have hn : 1048576 - (l.length : Int) < 0 := by omega
    have HE : Hid (-1 = V) := by show _ = _; rw [HV.out]; unfold szV; rw [if_neg (by omega)]
    go_enter Try.func77, Try.ntmps77
    go_wp2
    go_ret
    exact ⟨congrArg (fun z => Ending.returned (.int .i64 z)) HE.out, Below.refl _ _⟩
end Go.Proofs.Ytnnmbgenepfacaa

/-
  The program's flags without those of some numbers, and the numbers whose flags are set.
-/
import Derived.Test.YtdoolnaekmffbaaIkC
namespace Go.Proofs.Ytdoolnaekmffbaa
open Go.RowKit Go.Sort Ow Sk
set_option linter.unusedVariables false
set_option linter.unusedSimpArgs false

section
variable {P : Program}
theorem run_sliceA (w : World) (t e : TypeId) (n : Nat) (b : Nat) (l h : Nat) (hu : P.underlying t = some (.array n e)) (he : (P.info? e).map (·.size) = some 1) (h1 : l ≤ h) (h2 : h ≤ n) (h3 : l < n) :
    (Instr.sliceAt t (.pointer (some ⟨b, 0, none⟩)) (some (.int .i64 l)) (some (.int .i64 h)) none).run P w = .ok (.slice (some ⟨b, l, none⟩) (h - l) (n - l)) w := by
  obtain ⟨i, hi, hs⟩ := Option.map_eq_some_iff.1 he
  have e1 : (l : Int) ≤ (h : Int) := by omega
  have e2 : (h : Int) ≤ (n : Int) := by omega
  have e3 : ¬ n = l := by omega
  simp [Instr.sliceAt, run_underlying hu, Instr.sureAddr, Instr.sliceBounds, run_sliceBound, sizeOf, typeInfo, hi, hs, e1, e2, h1, h2, e3, addr_add]
theorem run_sliceTo (w : World) (t e : TypeId) (n : Nat) (b : Nat) (h : Nat) (hu : P.underlying t = some (.array n e)) (he : (P.info? e).map (·.size) = some 1) (h2 : h ≤ n) (h3 : 0 < n) :
    (Instr.sliceAt t (.pointer (some ⟨b, 0, none⟩)) none (some (.int .i64 h)) none).run P w = .ok (.slice (some ⟨b, 0, none⟩) h n) w := by
  obtain ⟨i, hi, hs⟩ := Option.map_eq_some_iff.1 he
  have e2 : (h : Int) ≤ (n : Int) := by omega
  have e3 : ¬ n = 0 := by omega
  simp [Instr.sliceAt, run_underlying hu, Instr.sureAddr, Instr.sliceBounds, run_sliceBound, sizeOf, typeInfo, hi, hs, e2, h2, e3, addr_add]
end
theorem Try.sizeB4 : (Try.prog.info? 4).map (·.size) = some 1 := by kernel_rfl
theorem zeroB4 (w : World) : (zeroValue 4).run Try.prog w = .ok (.bool false) w := by kernel_rfl
theorem run_clear1 (w : World) (ty : TypeId) (b o c : Nat) (u : Value) (hc : w.cell? ⟨b, o, none⟩ = some u) (hf : w.frozen? ⟨b, o, none⟩ = false) :
    (Builtin.clear_ #[77] ty #[.slice (some ⟨b, o, none⟩) 1 c]).run Try.prog w = .ok (.tuple #[]) (w.setCell ⟨b, o, none⟩ (.bool false)) := by
  have k1 : ∀ j, j < 1 → (w.cell? ⟨b, o + j, none⟩).isSome = true := by
    intro j hj
    obtain rfl : j = 0 := by omega
    rw [Nat.add_zero, hc]
    rfl
  have k2 : ∀ j, j < 1 → w.frozen? ⟨b, o + j, none⟩ = false := by
    intro j hj
    obtain rfl : j = 0 := by omega
    exact hf
  exact Lib.run_clear_slice (P := Try.prog) w 77 4 ty (.bool false) Try.underlying77 zeroB4 rfl rfl b o 1 c (by omega) k1 k2
/-- Flags, less those of some numbers. -/
def lessF (f : Nat → Bool) (l : List Int) (i : Nat) : Bool := f i && !decide ((i : Int) ∈ l)
theorem lessF_nil (f : Nat → Bool) : lessF f [] = f := by funext i; simp [lessF]
theorem lessF_snoc (f : Nat → Bool) (l : List Int) (m : Nat) : (fun j => if j = m then false else lessF f l j) = lessF f (l ++ [(m : Int)]) := by
  funext j
  unfold lessF
  by_cases e : j = m
  · subst e; rw [if_pos rfl]; simp
  · rw [if_neg e]
    congr 2
    simp
    omega
/-- The flags' box, and the answer's. -/
structure Tl (w W : World) (f : Nat → Bool) : Prop where
  low : Below w.heap.size w W
  bx : Bx W w.heap.size 61 (flgs f)
  rx : Bx W (w.heap.size + 1) 61 (flgs fun _ => false)
theorem Tl.new (w : World) (f : Nat → Bool) : Tl w ((w.alloc (.cells (flgs f) 61)).alloc (.cells (flgs fun _ => false) 61)) f := by
  have e : (w.alloc (.cells (flgs f) 61)).heap.size = w.heap.size + 1 := by simp
  have h2 := Bx.new (w.alloc (.cells (flgs f) 61)) 61 (flgs fun _ => false)
  rw [e] at h2
  exact ⟨((Below.refl _ w).alloc (Nat.le_refl _) _).alloc (by simp) _, (Bx.new w 61 (flgs f)).alloc _, h2⟩
theorem Tl.put {w W : World} {f : Nat → Bool} (h : Tl w W f) {i : Nat} (hi : i < 512) (b : Bool) : Tl w (W.setCell ⟨w.heap.size, i, none⟩ (.bool b)) (fun j => if j = i then b else f j) :=
  ⟨h.low.setCell (Nat.le_refl _) _, by have := h.bx.put i (.bool b); rw [flgs_set f hi] at this; exact this, h.rx.other _ _ (by omega)⟩
set_option maxRecDepth 100000 in
set_option maxHeartbeats 2000000 in
theorem implWo (f : Nat → Bool) (v : Value) (l : List Int) (w : World) (h : Sls intE w v l) (hl : ∀ x ∈ l, 0 ≤ x ∧ x < 512) :
    Calls Try.prog 48 #[.agg (flgs f), v] w fun e w' => e = .returned (.agg (flgs (lessF f l))) ∧ Below w.heap.size w w' := by
  obtain ⟨a, cap, rfl, h1, h2, h3⟩ := h.one
  have T0 : Hid (Tl w ((w.alloc (.cells (flgs f) 61)).alloc (.cells (flgs fun _ => false) 61)) (lessF f (l.take 0))) := by show Tl w _ _; rw [List.take_zero, lessF_nil]; exact Tl.new w f
  have HC : Hid (0 < l.length → ∃ g o, a = some ⟨g, o, none⟩ ∧ g < w.heap.size ∧ ∀ j (hj : j < l.length), w.cell? ⟨g, o + j, none⟩ = some (.int .i64 l[j])) := h3
  have HL : Hid (∀ x ∈ l, 0 ≤ x ∧ x < 512) := hl
  have eA : (w.alloc (.cells (flgs f) 61)).heap.size = w.heap.size + 1 := by simp
  unfold maxLen at h2
  have hll : l.length ≤ 9223372036854775807 := by omega
  have H2 : Hid (cap ≤ 9223372036854775807) := (show cap ≤ _ by omega)
  clear h h2 h3 hl
  go_enter Try.func48, Try.ntmps48
  go_wp2_with (refine wpList_allocA rfl 61 rfl (some 4) rfl (w.heap.size + 1) eA (flgs fun _ => false) zeroBR ?_)
  generalize (w.alloc (.cells (flgs f) 61)).alloc (.cells (flgs fun _ => false) 61) = W0 at T0 ⊢
  clear eA
  go_loopw [9] (fun i wr => ∃ k : Nat, k ≤ l.length ∧ i = .int .i64 k ∧ Hid (Tl w wr (lessF f (l.take k)))) (fun i _ => l.length - (intOf i).toNat)
  case atStart => exact ⟨0, Nat.zero_le _, rfl, T0⟩
  case round =>
    clear T0
    obtain ⟨k, hk, rfl, hT⟩ := hrel
    by_cases hlt : k < l.length
    · obtain ⟨g, o, rfl, hg, hc⟩ := HC.out (by omega)
      have c1 := (hT.out.low.cell (p := ⟨g, o + k, none⟩) hg).trans (hc k hlt)
      have hki : (k : Int) < (l.length : Int) := by omega
      have hx := HL.out l[k] (List.getElem_mem hlt)
      have HN : Hid (lessF f (l.take (k + 1)) = lessF f (l.take k ++ [l[k]])) := by show _ = _; rw [List.take_succ_eq_append_getElem hlt]
      generalize l[k] = x at c1 hx HN
      obtain ⟨m, rfl⟩ : ∃ m : Nat, x = (m : Int) := ⟨x.toNat, by omega⟩
      have hm : m < 512 := by omega
      have hmi : (m : Int) < 512 := by omega
      have T1 : Hid (Tl w (wr.setCell ⟨w.heap.size, m, none⟩ (.bool false)) (lessF f (l.take (k + 1)))) := by
        have := hT.out.put hm false
        rw [lessF_snoc] at this
        show Tl w _ _
        rw [HN.out]
        exact this
      have d1 := hT.out.bx.cell m
      rw [flgs_at _ hm] at d1
      have d2 := hT.out.bx.free m
      have hcl := fun ty => run_clear1 wr ty w.heap.size m (512 - m) _ d1 d2
      have hsl : ∀ W, (Instr.sliceAt 61 (.pointer (some ⟨w.heap.size, 0, none⟩)) (some (.int .i64 (m : Int))) (some (.int .i64 ((m : Int) + 1))) none).run Try.prog W = .ok (.slice (some ⟨w.heap.size, m, none⟩) 1 (512 - m)) W := fun W => by
        have := run_sliceA (P := Try.prog) W 61 4 512 w.heap.size m (m + 1) Try.underlying61 Try.sizeB4 (by omega) (by omega) (by omega)
        rw [show m + 1 - m = 1 by omega] at this
        exact this
      clear HN hT hc hx d1 d2
      go_wp2
      go_roundw
      case rel => exact ⟨k + 1, by omega, by go_num, T1⟩
      case measure => simp [intOf]; omega
    · obtain rfl : k = l.length := by omega
      rw [List.take_of_length_le (Nat.le_refl _)] at hT
      have R1 : Hid (Bx (wr.setRow (w.heap.size + 1) (flgs (lessF f l))) (w.heap.size + 1) 61 (flgs (lessF f l))) := (show Hid _ from hT.out.rx.row _)
      have B1 : Hid (Below w.heap.size w (wr.setRow (w.heap.size + 1) (flgs (lessF f l)))) := (show Hid _ from below_setRow hT.out.low (by omega) _)
      go_wp2_with (first
        | (refine wpList_load_row rfl 61 (.tmp 2) rfl w.heap.size rfl 61 (flgs (lessF f l)) (0, 0) _ hT.out.bx Try.underlying61 rfl (sizeBR _) ?_)
        | (refine wpList_store_row rfl 61 (.tmp 4) (.tmp 18) rfl (w.heap.size + 1) (flgs (lessF f l)) rfl rfl 61 (flgs fun _ => false) hT.out.rx (sizeBR _) (by rw [flgs_size, flgs_size]) (flgs_one _) ?_))
      refine bodyPost_ret (v := .agg (flgs (lessF f l))) (results_cell_row Try.results48 _ _ (w.heap.size + 1) 61 (flgs (lessF f l)) (0, 0) _ rfl R1.out Try.underlying61 rfl (sizeBR _)) rfl ⟨rfl, B1.out⟩
end Go.Proofs.Ytdoolnaekmffbaa

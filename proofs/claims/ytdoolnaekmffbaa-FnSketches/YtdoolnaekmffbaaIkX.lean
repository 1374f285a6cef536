/-
  The program's row of flags of numbers (rowOf), and the same without some (without).
  The program's flags without those of some numbers, and the numbers whose flags are set.
  The program's numbers whose flags are set.
-/
import Derived.Test.YtdoolnaekmffbaaIkB
namespace Go.Proofs.Ytdoolnaekmffbaa
open Go.RowKit Go.Sort Ow Sk
set_option linter.unusedVariables false
set_option linter.unusedSimpArgs false

theorem Bx.row {W : World} {b : Nat} {ty : TypeId} {vs : Array Value} (h : Bx W b ty vs) (us : Array Value) : Bx (W.setRow b us) b ty us := setRow_heap W b vs us ty _ h
theorem Bx.rowOther {W : World} {b g : Nat} {ty : TypeId} {vs : Array Value} (h : Bx W b ty vs) (us : Array Value) (hne : b ≠ g) : Bx (W.setRow g us) b ty vs := (setRow_other W g b us hne).trans h
theorem Try.infoBR : (Try.prog.info? 61).map (fun i => (i.zero, i.size)) = some (some (.agg (flgs fun _ => false)), 512) := by kernel_rfl
theorem zeroBR : (Try.prog.info? 61).map (·.zero) = some (some (.agg (flgs fun _ => false))) := by
  obtain ⟨i, hi, h⟩ := Option.map_eq_some_iff.1 Try.infoBR
  injection h with h1 h2
  rw [hi, Option.map_some, h1]
theorem sizeBR (f : Nat → Bool) : (Try.prog.info? 61).map (·.size) = some (flgs f).size := by
  obtain ⟨i, hi, h⟩ := Option.map_eq_some_iff.1 Try.infoBR
  injection h with h1 h2
  rw [hi, Option.map_some, h2, flgs_size]
theorem builtBR : Try.prog.built 61 [] = some (flgs fun _ => false) := by kernel_rfl
/-- Two rows of flags of the call's own: the answer's and the variable's. -/
structure Tf (w W : World) (f : Nat → Bool) : Prop where
  low : Below w.heap.size w W
  rx : Bx W w.heap.size 61 (flgs fun _ => false)
  bx : Bx W (w.heap.size + 1) 61 (flgs f)
theorem Tf.new (w : World) : Tf w (((w.alloc (.cells (flgs fun _ => false) 61)).alloc (.cells (flgs fun _ => false) 61)).setRow (w.heap.size + 1) (flgs fun _ => false)) (fun _ => false) := by
  have e : (w.alloc (.cells (flgs fun _ => false) 61)).heap.size = w.heap.size + 1 := by simp
  have h2 := Bx.new (w.alloc (.cells (flgs fun _ => false) 61)) 61 (flgs fun _ => false)
  rw [e] at h2
  have h1 := (Bx.new w 61 (flgs fun _ => false)).alloc (.cells (flgs fun _ => false) 61)
  exact ⟨below_setRow (((Below.refl _ w).alloc (Nat.le_refl _) _).alloc (by simp) _) (by omega) _, h1.rowOther _ (by omega), h2.row _⟩
theorem Tf.put {w W : World} {f : Nat → Bool} (h : Tf w W f) {i : Nat} (hi : i < 512) (b : Bool) : Tf w (W.setCell ⟨w.heap.size + 1, i, none⟩ (.bool b)) (fun j => if j = i then b else f j) :=
  ⟨h.low.setCell (Nat.le_succ _) _, h.rx.other _ _ (by omega), by have := h.bx.put i (.bool b); rw [flgs_set f hi] at this; exact this⟩
set_option maxRecDepth 100000 in
set_option maxHeartbeats 2000000 in
theorem implRow (v : Value) (l : List Int) (w : World) (h : Sls intE w v l) (hl : ∀ x ∈ l, 0 ≤ x ∧ x < 512) :
    Calls Try.prog 43 #[v] w fun e w' => e = .returned (.agg (flgs (inF l))) ∧ Below w.heap.size w w' := by
  obtain ⟨a, cap, rfl, h1, h2, h3⟩ := h.one
  have T0 : Hid (Tf w (((w.alloc (.cells (flgs fun _ => false) 61)).alloc (.cells (flgs fun _ => false) 61)).setRow (w.heap.size + 1) (flgs fun _ => false)) (inF (l.take 0))) := (show Tf w _ _ from Tf.new w)
  have HC : Hid (0 < l.length → ∃ g o, a = some ⟨g, o, none⟩ ∧ g < w.heap.size ∧ ∀ j (hj : j < l.length), w.cell? ⟨g, o + j, none⟩ = some (.int .i64 l[j])) := h3
  have HL : Hid (∀ x ∈ l, 0 ≤ x ∧ x < 512) := hl
  have eA : (w.alloc (.cells (flgs fun _ => false) 61)).heap.size = w.heap.size + 1 := by simp
  have X1 : Hid (Bx ((w.alloc (.cells (flgs fun _ => false) 61)).alloc (.cells (flgs fun _ => false) 61)) (w.heap.size + 1) 61 (flgs fun _ => false)) := by have := Bx.new (w.alloc (.cells (flgs fun _ => false) 61)) 61 (flgs fun _ => false); rw [eA] at this; exact this
  unfold maxLen at h2
  have hll : l.length ≤ 9223372036854775807 := by omega
  have H2 : Hid (cap ≤ 9223372036854775807) := (show cap ≤ _ by omega)
  clear h h2 h3 hl
  go_enter Try.func43, Try.ntmps43
  go_wp2_with (first
    | (refine wpList_allocA rfl 61 rfl (some 2) rfl w.heap.size rfl (flgs fun _ => false) zeroBR ?_)
    | (refine wpList_buildA rfl 61 rfl (some 6) rfl (flgs fun _ => false) builtBR ?_)
    | (refine wpList_allocA rfl 61 rfl (some 3) rfl (w.heap.size + 1) eA (flgs fun _ => false) zeroBR ?_)
    | (refine wpList_store_row rfl 61 (.tmp 3) (.tmp 6) rfl (w.heap.size + 1) (flgs fun _ => false) rfl rfl 61 (flgs fun _ => false) X1.out (sizeBR _) rfl (flgs_one _) ?_))
  generalize ((w.alloc (.cells (flgs fun _ => false) 61)).alloc (.cells (flgs fun _ => false) 61)).setRow (w.heap.size + 1) (flgs fun _ => false) = W0 at T0 ⊢
  clear X1 eA
  go_loopw [9] (fun i wr => ∃ k : Nat, k ≤ l.length ∧ i = .int .i64 k ∧ Hid (Tf w wr (inF (l.take k)))) (fun i _ => l.length - (intOf i).toNat)
  case atStart => exact ⟨0, Nat.zero_le _, rfl, T0⟩
  case round =>
    clear T0
    obtain ⟨k, hk, rfl, hT⟩ := hrel
    by_cases hlt : k < l.length
    · obtain ⟨g, o, rfl, hg, hc⟩ := HC.out (by omega)
      have c1 := (hT.out.low.cell (p := ⟨g, o + k, none⟩) hg).trans (hc k hlt)
      have hki : (k : Int) < (l.length : Int) := by omega
      have hx := HL.out l[k] (List.getElem_mem hlt)
      have HN : Hid (inF (l.take (k + 1)) = inF (l.take k ++ [l[k]])) := by show _ = _; rw [List.take_succ_eq_append_getElem hlt]
      generalize l[k] = x at c1 hx HN
      obtain ⟨m, rfl⟩ : ∃ m : Nat, x = (m : Int) := ⟨x.toNat, by omega⟩
      have hm : m < 512 := by omega
      have hmi : (m : Int) < 512 := by omega
      have T1 : Hid (Tf w (wr.setCell ⟨w.heap.size + 1, m, none⟩ (.bool true)) (inF (l.take (k + 1)))) := by
        have := hT.out.put hm true
        rw [inF_snoc] at this
        show Tf w _ _
        rw [HN.out]
        exact this
      have d1 := hT.out.bx.cell m
      rw [flgs_at _ hm] at d1
      have d2 := hT.out.bx.free m
      clear HN hT hc hx
      go_wp2
      go_roundw
      case rel => exact ⟨k + 1, by omega, by go_num, T1⟩
      case measure => simp [intOf]; omega
    · obtain rfl : k = l.length := by omega
      rw [List.take_of_length_le (Nat.le_refl _)] at hT
      have R1 : Hid (Bx (wr.setRow w.heap.size (flgs (inF l))) w.heap.size 61 (flgs (inF l))) := (show Hid _ from hT.out.rx.row _)
      have B1 : Hid (Below w.heap.size w (wr.setRow w.heap.size (flgs (inF l)))) := (show Hid _ from below_setRow hT.out.low (Nat.le_refl _) _)
      go_wp2_with (first
        | (refine wpList_load_row rfl 61 (.tmp 3) rfl (w.heap.size + 1) rfl 61 (flgs (inF l)) (0, 0) _ hT.out.bx Try.underlying61 rfl (sizeBR _) ?_)
        | (refine wpList_store_row rfl 61 (.tmp 2) (.tmp 16) rfl w.heap.size (flgs (inF l)) rfl rfl 61 (flgs fun _ => false) hT.out.rx (sizeBR _) (by rw [flgs_size, flgs_size]) (flgs_one _) ?_))
      refine bodyPost_ret (v := .agg (flgs (inF l))) (results_cell_row Try.results43 _ _ w.heap.size 61 (flgs (inF l)) (0, 0) _ rfl R1.out Try.underlying61 rfl (sizeBR _)) rfl ⟨rfl, B1.out⟩
end Go.Proofs.Ytdoolnaekmffbaa
namespace Go.Proofs.Ytdoolnaekmffbaa
open Go.RowKit Go.Sort Ow Sk
set_option linter.unusedVariables false
set_option linter.unusedSimpArgs false

section
variable {P : Program}
theorem run_sliceA (w : World) (t e : TypeId) (n : Nat) (b : Nat) (l h : Nat) (hu : P.underlying t = some (.array n e)) (he : (P.info? e).map (·.size) = some 1) (h1 : l ≤ h) (h2 : h ≤ n) (h3 : l < n) :
    (Instr.sliceAt t (.pointer (some ⟨b, 0, none⟩)) (some (.int .i64 l)) (some (.int .i64 h)) none).run P w = .ok (.slice (some ⟨b, l, none⟩) (h - l) (n - l)) w := by
  obtain ⟨i, hi, hs⟩ := Option.map_eq_some_iff.1 he
  have e1 : (l : Int) ≤ (h : Int) := by omega
  have e2 : (h : Int) ≤ (n : Int) := by omega
  have e3 : ¬ n = l := by omega
  simp [Instr.sliceAt, run_underlying hu, Instr.sureAddr, Instr.sliceBounds, run_sliceBound, sizeOf, typeInfo, hi, hs, e1, e2, h1, h2, e3, addr_add]
theorem run_sliceTo (w : World) (t e : TypeId) (n : Nat) (b : Nat) (h : Nat) (hu : P.underlying t = some (.array n e)) (he : (P.info? e).map (·.size) = some 1) (h2 : h ≤ n) (h3 : 0 < n) :
    (Instr.sliceAt t (.pointer (some ⟨b, 0, none⟩)) none (some (.int .i64 h)) none).run P w = .ok (.slice (some ⟨b, 0, none⟩) h n) w := by
  obtain ⟨i, hi, hs⟩ := Option.map_eq_some_iff.1 he
  have e2 : (h : Int) ≤ (n : Int) := by omega
  have e3 : ¬ n = 0 := by omega
  simp [Instr.sliceAt, run_underlying hu, Instr.sureAddr, Instr.sliceBounds, run_sliceBound, sizeOf, typeInfo, hi, hs, e2, h2, e3, addr_add]
end
theorem Try.sizeB4 : (Try.prog.info? 4).map (·.size) = some 1 := by kernel_rfl
theorem zeroB4 (w : World) : (zeroValue 4).run Try.prog w = .ok (.bool false) w := by kernel_rfl
theorem run_clear1 (w : World) (ty : TypeId) (b o c : Nat) (u : Value) (hc : w.cell? ⟨b, o, none⟩ = some u) (hf : w.frozen? ⟨b, o, none⟩ = false) :
    (Builtin.clear_ #[77] ty #[.slice (some ⟨b, o, none⟩) 1 c]).run Try.prog w = .ok (.tuple #[]) (w.setCell ⟨b, o, none⟩ (.bool false)) := by
  have k1 : ∀ j, j < 1 → (w.cell? ⟨b, o + j, none⟩).isSome = true := by
    intro j hj
    obtain rfl : j = 0 := by omega
    rw [Nat.add_zero, hc]
    rfl
  have k2 : ∀ j, j < 1 → w.frozen? ⟨b, o + j, none⟩ = false := by
    intro j hj
    obtain rfl : j = 0 := by omega
    exact hf
  exact Lib.run_clear_slice (P := Try.prog) w 77 4 ty (.bool false) Try.underlying77 zeroB4 rfl rfl b o 1 c (by omega) k1 k2
/-- Flags, less those of some numbers. -/
def lessF (f : Nat → Bool) (l : List Int) (i : Nat) : Bool := f i && !decide ((i : Int) ∈ l)
theorem lessF_nil (f : Nat → Bool) : lessF f [] = f := by funext i; simp [lessF]
theorem lessF_snoc (f : Nat → Bool) (l : List Int) (m : Nat) : (fun j => if j = m then false else lessF f l j) = lessF f (l ++ [(m : Int)]) := by
  funext j
  unfold lessF
  by_cases e : j = m
  · subst e; rw [if_pos rfl]; simp
  · rw [if_neg e]
    congr 2
    simp
    omega
/-- The flags' box, and the answer's. -/
structure Tl (w W : World) (f : Nat → Bool) : Prop where
  low : Below w.heap.size w W
  bx : Bx W w.heap.size 61 (flgs f)
  rx : Bx W (w.heap.size + 1) 61 (flgs fun _ => false)
theorem Tl.new (w : World) (f : Nat → Bool) : Tl w ((w.alloc (.cells (flgs f) 61)).alloc (.cells (flgs fun _ => false) 61)) f := by
  have e : (w.alloc (.cells (flgs f) 61)).heap.size = w.heap.size + 1 := by simp
  have h2 := Bx.new (w.alloc (.cells (flgs f) 61)) 61 (flgs fun _ => false)
  rw [e] at h2
  exact ⟨((Below.refl _ w).alloc (Nat.le_refl _) _).alloc (by simp) _, (Bx.new w 61 (flgs f)).alloc _, h2⟩
theorem Tl.put {w W : World} {f : Nat → Bool} (h : Tl w W f) {i : Nat} (hi : i < 512) (b : Bool) : Tl w (W.setCell ⟨w.heap.size, i, none⟩ (.bool b)) (fun j => if j = i then b else f j) :=
  ⟨h.low.setCell (Nat.le_refl _) _, by have := h.bx.put i (.bool b); rw [flgs_set f hi] at this; exact this, h.rx.other _ _ (by omega)⟩
set_option maxRecDepth 100000 in
set_option maxHeartbeats 2000000 in
theorem implWo (f : Nat → Bool) (v : Value) (l : List Int) (w : World) (h : Sls intE w v l) (hl : ∀ x ∈ l, 0 ≤ x ∧ x < 512) :
    Calls Try.prog 48 #[.agg (flgs f), v] w fun e w' => e = .returned (.agg (flgs (lessF f l))) ∧ Below w.heap.size w w' := by
  obtain ⟨a, cap, rfl, h1, h2, h3⟩ := h.one
  have T0 : Hid (Tl w ((w.alloc (.cells (flgs f) 61)).alloc (.cells (flgs fun _ => false) 61)) (lessF f (l.take 0))) := by show Tl w _ _; rw [List.take_zero, lessF_nil]; exact Tl.new w f
  have HC : Hid (0 < l.length → ∃ g o, a = some ⟨g, o, none⟩ ∧ g < w.heap.size ∧ ∀ j (hj : j < l.length), w.cell? ⟨g, o + j, none⟩ = some (.int .i64 l[j])) := h3
  have HL : Hid (∀ x ∈ l, 0 ≤ x ∧ x < 512) := hl
  have eA : (w.alloc (.cells (flgs f) 61)).heap.size = w.heap.size + 1 := by simp
  unfold maxLen at h2
  have hll : l.length ≤ 9223372036854775807 := by omega
  have H2 : Hid (cap ≤ 9223372036854775807) := (show cap ≤ _ by omega)
  clear h h2 h3 hl
  go_enter Try.func48, Try.ntmps48
  go_wp2_with (refine wpList_allocA rfl 61 rfl (some 4) rfl (w.heap.size + 1) eA (flgs fun _ => false) zeroBR ?_)
  generalize (w.alloc (.cells (flgs f) 61)).alloc (.cells (flgs fun _ => false) 61) = W0 at T0 ⊢
  clear eA
  go_loopw [9] (fun i wr => ∃ k : Nat, k ≤ l.length ∧ i = .int .i64 k ∧ Hid (Tl w wr (lessF f (l.take k)))) (fun i _ => l.length - (intOf i).toNat)
  case atStart => exact ⟨0, Nat.zero_le _, rfl, T0⟩
  case round =>
    clear T0
    obtain ⟨k, hk, rfl, hT⟩ := hrel
    by_cases hlt : k < l.length
    · obtain ⟨g, o, rfl, hg, hc⟩ := HC.out (by omega)
      have c1 := (hT.out.low.cell (p := ⟨g, o + k, none⟩) hg).trans (hc k hlt)
      have hki : (k : Int) < (l.length : Int) := by omega
      have hx := HL.out l[k] (List.getElem_mem hlt)
      have HN : Hid (lessF f (l.take (k + 1)) = lessF f (l.take k ++ [l[k]])) := by show _ = _; rw [List.take_succ_eq_append_getElem hlt]
      generalize l[k] = x at c1 hx HN
      obtain ⟨m, rfl⟩ : ∃ m : Nat, x = (m : Int) := ⟨x.toNat, by omega⟩
      have hm : m < 512 := by omega
      have hmi : (m : Int) < 512 := by omega
      have T1 : Hid (Tl w (wr.setCell ⟨w.heap.size, m, none⟩ (.bool false)) (lessF f (l.take (k + 1)))) := by
        have := hT.out.put hm false
        rw [lessF_snoc] at this
        show Tl w _ _
        rw [HN.out]
        exact this
      have d1 := hT.out.bx.cell m
      rw [flgs_at _ hm] at d1
      have d2 := hT.out.bx.free m
      have hcl := fun ty => run_clear1 wr ty w.heap.size m (512 - m) _ d1 d2
      have hsl : ∀ W, (Instr.sliceAt 61 (.pointer (some ⟨w.heap.size, 0, none⟩)) (some (.int .i64 (m : Int))) (some (.int .i64 ((m : Int) + 1))) none).run Try.prog W = .ok (.slice (some ⟨w.heap.size, m, none⟩) 1 (512 - m)) W := fun W => by
        have := run_sliceA (P := Try.prog) W 61 4 512 w.heap.size m (m + 1) Try.underlying61 Try.sizeB4 (by omega) (by omega) (by omega)
        rw [show m + 1 - m = 1 by omega] at this
        exact this
      clear HN hT hc hx d1 d2
      go_wp2
      go_roundw
      case rel => exact ⟨k + 1, by omega, by go_num, T1⟩
      case measure => simp [intOf]; omega
    · obtain rfl : k = l.length := by omega
      rw [List.take_of_length_le (Nat.le_refl _)] at hT
      have R1 : Hid (Bx (wr.setRow (w.heap.size + 1) (flgs (lessF f l))) (w.heap.size + 1) 61 (flgs (lessF f l))) := (show Hid _ from hT.out.rx.row _)
      have B1 : Hid (Below w.heap.size w (wr.setRow (w.heap.size + 1) (flgs (lessF f l)))) := (show Hid _ from below_setRow hT.out.low (by omega) _)
      go_wp2_with (first
        | (refine wpList_load_row rfl 61 (.tmp 2) rfl w.heap.size rfl 61 (flgs (lessF f l)) (0, 0) _ hT.out.bx Try.underlying61 rfl (sizeBR _) ?_)
        | (refine wpList_store_row rfl 61 (.tmp 4) (.tmp 18) rfl (w.heap.size + 1) (flgs (lessF f l)) rfl rfl 61 (flgs fun _ => false) hT.out.rx (sizeBR _) (by rw [flgs_size, flgs_size]) (flgs_one _) ?_))
      refine bodyPost_ret (v := .agg (flgs (lessF f l))) (results_cell_row Try.results48 _ _ (w.heap.size + 1) 61 (flgs (lessF f l)) (0, 0) _ rfl R1.out Try.underlying61 rfl (sizeBR _)) rfl ⟨rfl, B1.out⟩
end Go.Proofs.Ytdoolnaekmffbaa
namespace Go.Proofs.Ytdoolnaekmffbaa
open Go.RowKit Go.Sort Ow Sk
set_option linter.unusedVariables false
set_option linter.unusedSimpArgs false

theorem Try.infoAI : (Try.prog.info? 76).map (fun i => (i.zero, i.size)) = some (some (.agg (nmsA [])), 512) := by kernel_rfl
theorem zeroAI : (Try.prog.info? 76).map (·.zero) = some (some (.agg (nmsA []))) := by
  obtain ⟨i, hi, h⟩ := Option.map_eq_some_iff.1 Try.infoAI
  injection h with h1 h2
  rw [hi, Option.map_some, h1]
theorem sizeAI : (Try.prog.info? 76).map (·.size) = some (nmsA []).size := by
  obtain ⟨i, hi, h⟩ := Option.map_eq_some_iff.1 Try.infoAI
  injection h with h1 h2
  rw [hi, Option.map_some, h2, nmsA_size (by simp)]
theorem builtAI : Try.prog.built 76 [] = some (nmsA []) := by kernel_rfl
theorem aggB4 (w : World) : (isAgg 4).run Try.prog w = .ok false w := by kernel_rfl
theorem sizeN2 : (Try.prog.info? 2).map (·.size) = some 1 := by kernel_rfl
/-- The flags' box and the room for the numbers. -/
structure Tn (w W : World) (f : Nat → Bool) (L : List Int) : Prop where
  low : Below w.heap.size w W
  sx : Bx W w.heap.size 61 (flgs f)
  bx : Bx W (w.heap.size + 1) 76 (nmsA L)
theorem Tn.new (w : World) (f : Nat → Bool) : Tn w (((w.alloc (.cells (flgs f) 61)).alloc (.cells (nmsA []) 76)).setRow (w.heap.size + 1) (nmsA [])) f [] := by
  have e : (w.alloc (.cells (flgs f) 61)).heap.size = w.heap.size + 1 := by simp
  have h2 := Bx.new (w.alloc (.cells (flgs f) 61)) 76 (nmsA [])
  rw [e] at h2
  exact ⟨below_setRow (((Below.refl _ w).alloc (Nat.le_refl _) _).alloc (by simp) _) (by omega) _, ((Bx.new w 61 (flgs f)).alloc _).rowOther _ (by omega), h2.row _⟩
theorem Tn.put {w W : World} {f : Nat → Bool} {L : List Int} (h : Tn w W f L) (hL : L.length < 512) (x : Int) : Tn w (W.setCell ⟨w.heap.size + 1, L.length, none⟩ (.int .i64 x)) f (L ++ [x]) :=
  ⟨h.low.setCell (Nat.le_succ _) _, h.sx.other _ _ (by omega), by have := h.bx.put L.length (.int .i64 x); rw [nmsA_put hL] at this; exact this⟩
theorem cellsI_at (L : List Int) (j : Nat) (u : Value) (h : (cellsE intE L)[j]? = some u) : ∃ h : j < L.length, u = .int .i64 L[j] := by
  have hl := cellsE_length intE L
  have hj : j < L.length := by
    have := (List.getElem?_eq_some_iff.1 h).1
    rw [hl] at this
    have hk : intE.k = 1 := rfl
    rw [hk] at this
    omega
  refine ⟨hj, ?_⟩
  have := cellsE_at intE L j hj 0 (by decide)
  rw [show j * intE.k + 0 = j from by show j * 1 + 0 = j; omega, h] at this
  injection this
set_option maxRecDepth 100000 in
set_option maxHeartbeats 2000000 in
theorem implNms (f : Nat → Bool) (w : World) :
    Calls Try.prog 45 #[.agg (flgs f)] w fun e w' => ∃ g c, e = .returned (.slice (some ⟨g, 0, none⟩) (onL f 512).length c) ∧ HasN w' w.heap.size (.slice (some ⟨g, 0, none⟩) (onL f 512).length c) (onL f 512) ∧ Below w.heap.size w w' := by
  have T0 : Hid (Tn w (((w.alloc (.cells (flgs f) 61)).alloc (.cells (nmsA []) 76)).setRow (w.heap.size + 1) (nmsA [])) f (onL f 0)) := (show Tn w _ f [] from Tn.new w f)
  have eA : (w.alloc (.cells (flgs f) 61)).heap.size = w.heap.size + 1 := by simp
  have X1 : Hid (Bx ((w.alloc (.cells (flgs f) 61)).alloc (.cells (nmsA []) 76)) (w.heap.size + 1) 76 (nmsA [])) := by have := Bx.new (w.alloc (.cells (flgs f) 61)) 76 (nmsA []); rw [eA] at this; exact this
  obtain ⟨i0, hi, hz0, hz1, hz2⟩ := info_parts Try.infoN2
  go_enter Try.func45, Try.ntmps45
  go_wp2_with (first
    | (refine wpList_buildA rfl 76 rfl (some 8) rfl (nmsA []) builtAI ?_)
    | (refine wpList_allocA rfl 76 rfl (some 3) rfl (w.heap.size + 1) eA (nmsA []) zeroAI ?_)
    | (refine wpList_store_row rfl 76 (.tmp 3) (.tmp 8) rfl (w.heap.size + 1) (nmsA []) rfl rfl 76 (nmsA []) X1.out sizeAI rfl (nmsA_one _) ?_)
    | (refine wpList_load_row rfl 61 (.tmp 1) rfl w.heap.size rfl 61 (flgs f) (0, 0) _ T0.out.sx Try.underlying61 rfl (sizeBR _) ?_))
  generalize ((w.alloc (.cells (flgs f) 61)).alloc (.cells (nmsA []) 76)).setRow (w.heap.size + 1) (nmsA []) = W0 at T0 ⊢
  clear X1 eA
  go_loopw [4, 10] (fun c i wr => ∃ k : Nat, k ≤ 512 ∧ i = .int .i64 k ∧ c = .int .i64 ((onL f k).length : Nat) ∧ Hid (Tn w wr f (onL f k))) (fun _ i _ => 512 - (intOf i).toNat)
  case atStart => exact ⟨0, Nat.zero_le _, rfl, rfl, T0⟩
  case round =>
    clear T0
    obtain ⟨k, hk, rfl, rfl, hT⟩ := hrel
    by_cases hlt : k < 512
    · have hki : (k : Int) < 512 := by omega
      have hix : ∀ W, (Instr.index 61 (.agg (flgs f)) (.int .i64 (k : Int))).run Try.prog W = .ok (.bool (f k)) W := fun W => run_indexA (P := Try.prog) W 61 4 512 (flgs f) k (.bool (f k)) Try.underlying61 Try.sizeB4 (aggB4 W) hlt (flgs_at f hlt)
      have hlen := onL_len f k
      cases hf : f k with
      | true =>
        rw [hf] at hix
        have hL : (onL f k).length < 512 := by omega
        have T1 : Hid (Tn w (wr.setCell ⟨w.heap.size + 1, (onL f k).length, none⟩ (.int .i64 (k : Int))) f (onL f k ++ [(k : Int)])) := (show Tn w _ f _ from hT.out.put hL (k : Int))
        have HN : Hid (onL f (k + 1) = onL f k ++ [(k : Int)]) := onL_yes hf
        have d1 := hT.out.bx.cell (onL f k).length
        obtain ⟨v0, hv0⟩ := nmsA_some (L := onL f k) hL (by omega)
        rw [hv0] at d1
        have d2 := hT.out.bx.free (onL f k).length
        generalize onL f k = L at T1 HN d1 d2 hL
        have hLi : (L.length : Int) < 512 := by omega
        clear hT hf hv0
        go_wp2
        go_roundw
        case rel => exact ⟨k + 1, by omega, by go_num, by rw [HN.out, List.length_append]; go_num, by rw [HN.out]; exact T1⟩
        case measure => simp [intOf]; omega
      | false =>
        rw [hf] at hix
        have HN : Hid (onL f (k + 1) = onL f k) := onL_no hf
        clear hf
        go_wp2
        go_roundw
        case rel => exact ⟨k + 1, by omega, by go_num, by rw [HN.out], by rw [HN.out]; exact hT⟩
        case measure => simp [intOf]; omega
    · obtain rfl : k = 512 := by omega
      have hlen := onL_len f 512
      obtain ⟨L, hL⟩ : ∃ L, onL f 512 = L := ⟨_, rfl⟩
      have HL : Hid (onL f 512 = L) := hL
      rw [hL] at hT hlen ⊢
      clear hL
      have hmk : (Instr.makeSlice 24 (.int .i64 (L.length : Int)) (.int .i64 (L.length : Int))).run Try.prog wr = .ok (.slice (some ⟨wr.heap.size, 0, none⟩) L.length L.length) (wr.alloc (.cells (madeCells (Value.int .i64 0).cells (L.length * intE.k)) 2)) := by
        have := run_makeSlice (P := Try.prog) wr 24 2 i0 (.int .i64 0) Try.underlying24 hi hz0 .i64 .i64 (L.length : Int) (L.length : Int) (by omega) (by omega) (by rw [hz1]; show (L.length : Int).toNat * 1 ≤ _; omega) (by rw [hz2]; omega) (by omega)
        rw [hz1, Int.toNat_natCast] at this
        exact this
      have hcur : (madeCells (Value.int .i64 0).cells (L.length * intE.k)).size = L.length := by rw [size_madeCells]; show L.length * 1 = _; omega
      have hsl : ∀ W, (Instr.sliceAt 76 (.pointer (some ⟨w.heap.size + 1, 0, none⟩)) none (some (.int .i64 (L.length : Int))) none).run Try.prog W = .ok (.slice (some ⟨w.heap.size + 1, 0, none⟩) L.length 512) W := fun W => run_sliceTo (P := Try.prog) W 76 2 512 (w.heap.size + 1) L.length Try.underlying76 sizeN2 hlen (by omega)
      have X3 : Hid (Bx (wr.alloc (.cells (madeCells (Value.int .i64 0).cells (L.length * intE.k)) 2)) wr.heap.size 2 (madeCells (Value.int .i64 0).cells (L.length * intE.k))) := (show Hid _ from Bx.new _ _ _)
      have S3 : Hid (Bx (wr.alloc (.cells (madeCells (Value.int .i64 0).cells (L.length * intE.k)) 2)) (w.heap.size + 1) 76 (nmsA L)) := (show Hid _ from hT.out.bx.alloc _)
      have B3 : Hid (Below w.heap.size w (wr.alloc (.cells (madeCells (Value.int .i64 0).cells (L.length * intE.k)) 2))) := (show Hid _ from hT.out.low.alloc hT.out.low.size _)
      have hbs := hT.out.low.size
      generalize madeCells (Value.int .i64 0).cells (L.length * intE.k) = C at hmk X3 S3 B3 hcur
      generalize hG : wr.heap.size = G at hmk X3 hbs
      generalize wr.alloc (.cells C 2) = w3 at hmk X3 S3 B3
      obtain ⟨C', rfl⟩ : ∃ C' : List Value, C = C'.toArray := ⟨C.toList, by simp⟩
      have hcur' : C'.length = L.length := by simpa using hcur
      clear hG hT hcur hi hz0 hz1 hz2
      obtain ⟨w4, hcp, hg4, hb4⟩ : ∃ w4, (∀ ty, (Builtin.copy_ #[24, 24] ty #[.slice (some ⟨G, 0, none⟩) L.length L.length, .slice (some ⟨w.heap.size + 1, 0, none⟩) L.length 512]).run Try.prog w3 = .ok (goInt L.length) w4) ∧ Hid (w4.heap[G]? = some (.cells (splice C' 0 (cellsE intE L)).toArray 2 (0, 0))) ∧ Hid (Below w.heap.size w w4) := by
        have e1 : (cellsE intE L).length = L.length := by rw [cellsE_length]; show L.length * 1 = _; omega
        by_cases h0 : L.length = 0
        · obtain rfl : L = [] := List.eq_nil_of_length_eq_zero h0
          refine ⟨w3, fun ty => run_copy_none (P := Try.prog) w3 24 24 ty 2 _ _ _ _ _ _ Try.underlying24 sizeN2 rfl, ?_, B3⟩
          show _ = _
          have : C' = [] := List.eq_nil_of_length_eq_zero hcur'
          subst this
          exact X3.out
        · refine ⟨_, fun ty => ?_, ?_, (show Hid _ from below_setRow B3.out hbs (C'.take 0 ++ (cellsE intE L ++ C'.drop (0 + (cellsE intE L).length))).toArray)⟩
          · have := run_copy_row (P := Try.prog) w3 24 24 ty 2 G 0 L.length L.length ⟨w.heap.size + 1, 0, none⟩ L.length 512 C'.toArray 2 (cellsE intE L) Try.underlying24 sizeN2 X3.out (by rw [e1]; exact (Nat.min_self _).symm) (fun j v hv => by obtain ⟨hj, rfl⟩ := cellsI_at L j v hv; rw [addr_add, Nat.zero_add, S3.out.cell, nmsA_at hj]) (by rw [e1, List.size_toArray, hcur']; omega) (cellsE_one intE L)
            rw [e1] at this
            rw [e1]
            exact this
          · exact (show _ = _ from setRow_heap w3 G _ _ 2 _ X3.out)
      go_wp2
      go_ret
      rw [HL.out]
      refine ⟨G, L.length, rfl, .inr ⟨G, L.length, _, rfl, hbs, hg4.out, Nat.le_refl _, by unfold maxLen; omega, ?_, ?_⟩, hb4.out⟩
      · have : (splice C' 0 (cellsE intE L)).length = C'.length := length_splice _ _ _ (by rw [cellsE_length, hcur']; show 0 + L.length * 1 ≤ _; omega)
        rw [List.size_toArray, this, hcur']
        show L.length * 1 ≤ _
        omega
      · have e1 : (cellsE intE L).length = L.length := by rw [cellsE_length]; show L.length * 1 = _; omega
        rw [List.toList_toArray]
        unfold splice
        rw [List.take_zero, List.nil_append, List.take_append_of_le_length (by rw [cellsE_length]; exact Nat.le_refl _), List.take_of_length_le (by rw [cellsE_length]; exact Nat.le_refl _)]
end Go.Proofs.Ytdoolnaekmffbaa

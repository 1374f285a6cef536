/-
  The program's row of flags of numbers (rowOf), and the same without some (without).
-/
import Derived.Test.YtdoolnaekmffbaaIkB
namespace Go.Proofs.Ytdoolnaekmffbaa
open Go.RowKit Go.Sort Ow Sk
set_option linter.unusedVariables false
set_option linter.unusedSimpArgs false

theorem Bx.row {W : World} {b : Nat} {ty : TypeId} {vs : Array Value} (h : Bx W b ty vs) (us : Array Value) : Bx (W.setRow b us) b ty us := setRow_heap W b vs us ty _ h
theorem Bx.rowOther {W : World} {b g : Nat} {ty : TypeId} {vs : Array Value} (h : Bx W b ty vs) (us : Array Value) (hne : b ≠ g) : Bx (W.setRow g us) b ty vs := (setRow_other W g b us hne).trans h
theorem Try.infoBR : (Try.prog.info? 61).map (fun i => (i.zero, i.size)) = some (some (.agg (flgs fun _ => false)), 512) := by kernel_rfl
theorem zeroBR : (Try.prog.info? 61).map (·.zero) = some (some (.agg (flgs fun _ => false))) := by
  obtain ⟨i, hi, h⟩ := Option.map_eq_some_iff.1 Try.infoBR
  injection h with h1 h2
  rw [hi, Option.map_some, h1]
theorem sizeBR (f : Nat → Bool) : (Try.prog.info? 61).map (·.size) = some (flgs f).size := by
  obtain ⟨i, hi, h⟩ := Option.map_eq_some_iff.1 Try.infoBR
  injection h with h1 h2
  rw [hi, Option.map_some, h2, flgs_size]
theorem builtBR : Try.prog.built 61 [] = some (flgs fun _ => false) := by kernel_rfl
/-- Two rows of flags of the call's own: the answer's and the variable's. -/
structure Tf (w W : World) (f : Nat → Bool) : Prop where
  low : Below w.heap.size w W
  rx : Bx W w.heap.size 61 (flgs fun _ => false)
  bx : Bx W (w.heap.size + 1) 61 (flgs f)
theorem Tf.new (w : World) : Tf w (((w.alloc (.cells (flgs fun _ => false) 61)).alloc (.cells (flgs fun _ => false) 61)).setRow (w.heap.size + 1) (flgs fun _ => false)) (fun _ => false) := by
  have e : (w.alloc (.cells (flgs fun _ => false) 61)).heap.size = w.heap.size + 1 := by simp
  have h2 := Bx.new (w.alloc (.cells (flgs fun _ => false) 61)) 61 (flgs fun _ => false)
  rw [e] at h2
  have h1 := (Bx.new w 61 (flgs fun _ => false)).alloc (.cells (flgs fun _ => false) 61)
  exact ⟨below_setRow (((Below.refl _ w).alloc (Nat.le_refl _) _).alloc (by simp) _) (by omega) _, h1.rowOther _ (by omega), h2.row _⟩
theorem Tf.put {w W : World} {f : Nat → Bool} (h : Tf w W f) {i : Nat} (hi : i < 512) (b : Bool) : Tf w (W.setCell ⟨w.heap.size + 1, i, none⟩ (.bool b)) (fun j => if j = i then b else f j) :=
  ⟨h.low.setCell (Nat.le_succ _) _, h.rx.other _ _ (by omega), by have := h.bx.put i (.bool b); rw [flgs_set f hi] at this; exact this⟩
set_option maxRecDepth 100000 in
set_option maxHeartbeats 2000000 in
theorem implRow (v : Value) (l : List Int) (w : World) (h : Sls intE w v l) (hl : ∀ x ∈ l, 0 ≤ x ∧ x < 512) :
    Calls Try.prog 43 #[v] w fun e w' => e = .returned (.agg (flgs (inF l))) ∧ Below w.heap.size w w' := by
  obtain ⟨a, cap, rfl, h1, h2, h3⟩ := h.one
  have T0 : Hid (Tf w (((w.alloc (.cells (flgs fun _ => false) 61)).alloc (.cells (flgs fun _ => false) 61)).setRow (w.heap.size + 1) (flgs fun _ => false)) (inF (l.take 0))) := (show Tf w _ _ from Tf.new w)
  have HC : Hid (0 < l.length → ∃ g o, a = some ⟨g, o, none⟩ ∧ g < w.heap.size ∧ ∀ j (hj : j < l.length), w.cell? ⟨g, o + j, none⟩ = some (.int .i64 l[j])) := h3
  have HL : Hid (∀ x ∈ l, 0 ≤ x ∧ x < 512) := hl
  have eA : (w.alloc (.cells (flgs fun _ => false) 61)).heap.size = w.heap.size + 1 := by simp
  have X1 : Hid (Bx ((w.alloc (.cells (flgs fun _ => false) 61)).alloc (.cells (flgs fun _ => false) 61)) (w.heap.size + 1) 61 (flgs fun _ => false)) := by have := Bx.new (w.alloc (.cells (flgs fun _ => false) 61)) 61 (flgs fun _ => false); rw [eA] at this; exact this
  unfold maxLen at h2
  have hll : l.length ≤ 9223372036854775807 := by omega
  have H2 : Hid (cap ≤ 9223372036854775807) := (show cap ≤ _ by omega)
  clear h h2 h3 hl
  go_enter Try.func43, Try.ntmps43
  go_wp2_with (first
    | (refine wpList_allocA rfl 61 rfl (some 2) rfl w.heap.size rfl (flgs fun _ => false) zeroBR ?_)
    | (refine wpList_buildA rfl 61 rfl (some 6) rfl (flgs fun _ => false) builtBR ?_)
    | (refine wpList_allocA rfl 61 rfl (some 3) rfl (w.heap.size + 1) eA (flgs fun _ => false) zeroBR ?_)
    | (refine wpList_store_row rfl 61 (.tmp 3) (.tmp 6) rfl (w.heap.size + 1) (flgs fun _ => false) rfl rfl 61 (flgs fun _ => false) X1.out (sizeBR _) rfl (flgs_one _) ?_))
  generalize ((w.alloc (.cells (flgs fun _ => false) 61)).alloc (.cells (flgs fun _ => false) 61)).setRow (w.heap.size + 1) (flgs fun _ => false) = W0 at T0 ⊢
  clear X1 eA
  go_loopw [9] (fun i wr => ∃ k : Nat, k ≤ l.length ∧ i = .int .i64 k ∧ Hid (Tf w wr (inF (l.take k)))) (fun i _ => l.length - (intOf i).toNat)
  case atStart => exact ⟨0, Nat.zero_le _, rfl, T0⟩
  case round =>
    clear T0
    obtain ⟨k, hk, rfl, hT⟩ := hrel
    by_cases hlt : k < l.length
    · obtain ⟨g, o, rfl, hg, hc⟩ := HC.out (by omega)
      have c1 := (hT.out.low.cell (p := ⟨g, o + k, none⟩) hg).trans (hc k hlt)
      have hki : (k : Int) < (l.length : Int) := by omega
      have hx := HL.out l[k] (List.getElem_mem hlt)
      have HN : Hid (inF (l.take (k + 1)) = inF (l.take k ++ [l[k]])) := by show _ = _; rw [List.take_succ_eq_append_getElem hlt]
      generalize l[k] = x at c1 hx HN
      obtain ⟨m, rfl⟩ : ∃ m : Nat, x = (m : Int) := ⟨x.toNat, by omega⟩
      have hm : m < 512 := by omega
      have hmi : (m : Int) < 512 := by omega
      have T1 : Hid (Tf w (wr.setCell ⟨w.heap.size + 1, m, none⟩ (.bool true)) (inF (l.take (k + 1)))) := by
        have := hT.out.put hm true
        rw [inF_snoc] at this
        show Tf w _ _
        rw [HN.out]
        exact this
      have d1 := hT.out.bx.cell m
      rw [flgs_at _ hm] at d1
      have d2 := hT.out.bx.free m
      clear HN hT hc hx
      go_wp2
      go_roundw
      case rel => exact ⟨k + 1, by omega, by go_num, T1⟩
      case measure => simp [intOf]; omega
    · obtain rfl : k = l.length := by omega
      rw [List.take_of_length_le (Nat.le_refl _)] at hT
      have R1 : Hid (Bx (wr.setRow w.heap.size (flgs (inF l))) w.heap.size 61 (flgs (inF l))) := (show Hid _ from hT.out.rx.row _)
      have B1 : Hid (Below w.heap.size w (wr.setRow w.heap.size (flgs (inF l)))) := (show Hid _ from below_setRow hT.out.low (Nat.le_refl _) _)
      go_wp2_with (first
        | (refine wpList_load_row rfl 61 (.tmp 3) rfl (w.heap.size + 1) rfl 61 (flgs (inF l)) (0, 0) _ hT.out.bx Try.underlying61 rfl (sizeBR _) ?_)
        | (refine wpList_store_row rfl 61 (.tmp 2) (.tmp 16) rfl w.heap.size (flgs (inF l)) rfl rfl 61 (flgs fun _ => false) hT.out.rx (sizeBR _) (by rw [flgs_size, flgs_size]) (flgs_one _) ?_))
      refine bodyPost_ret (v := .agg (flgs (inF l))) (results_cell_row Try.results43 _ _ w.heap.size 61 (flgs (inF l)) (0, 0) _ rfl R1.out Try.underlying61 rfl (sizeBR _)) rfl ⟨rfl, B1.out⟩
end Go.Proofs.Ytdoolnaekmffbaa

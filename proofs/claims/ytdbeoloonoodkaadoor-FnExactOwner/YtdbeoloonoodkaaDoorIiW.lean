/-
  The program's weights of servers.
-/
import Derived.Test.YtdbeoloonoodkaaDoorIwF
import Derived.Test.YtdbeoloonoodkaaDoorIwM
import Derived.Test.YtdbeoloonoodkaaDoorIiP
namespace Go.Proofs.YtdbeoloonoodkaaDoor.Ih
open Go.RowKit Go.Sort Ow
set_option linter.unusedVariables false
set_option linter.unusedSimpArgs false

set_option maxRecDepth 100000 in
set_option maxHeartbeats 1000000 in
theorem implWof (v : Value) (l : List Int) (key : ByteArray) (w : World) (h : Sls intE w v l) (hl : l.length ≤ 9) (hin : ∀ x ∈ l, 0 ≤ x ∧ x ≤ 99) (hk : key.size ≤ 1048576) :
    Calls Tryd.prog 36 #[v, .string key] w fun e w' => e = .returned (.map (some w.heap.size)) ∧ WtM w' w.heap.size (wgV key) l ∧ Below w.heap.size w w' := by
  obtain ⟨a, cap, rfl, h1, h2, h3⟩ := h.one
  have H2 : Hid (cap ≤ maxLen) := h2
  have hwt := fun s W => implWgt s key W hk
  have HC : Hid (∀ j (hj : j < l.length), ∃ g o, a = some ⟨g, o, none⟩ ∧ g < w.heap.size ∧ w.cell? ⟨g, o + j, none⟩ = some (.int .i64 l[j])) := (show ∀ _, _ from fun j hj => by
    obtain ⟨g, o, e, hg, hc⟩ := h3 (by omega)
    exact ⟨g, o, e, hg, hc j hj⟩)
  have HI : Hid (∀ x ∈ l, 0 ≤ x ∧ x ≤ 99) := hin
  have hmm := @run_makeMap Tryd.prog
  have HW : Hid (∀ s, -9223372036854775808 ≤ wgV key s ∧ wgV key s ≤ 9223372036854775807) := wgV_rng key
  generalize wgV key = W at hwt HW ⊢
  have M0 : Hid (WtM (w.alloc (.map #[] 0)) w.heap.size W []) := WtM.made w W
  have B0 : Hid (Below w.heap.size w (w.alloc (.map #[] 0))) := (show Hid _ from (Below.refl _ w).alloc (Nat.le_refl _) _)
  clear h h2 h3 hin
  go_enter Tryd.func36, Tryd.ntmps36
  go_wp2
  go_loopw [11] (fun i wr => ∃ k : Nat, k ≤ l.length ∧ i = .int .i64 k ∧ Hid (WtM wr w.heap.size W (l.take k)) ∧ Hid (Below w.heap.size w wr)) (fun i _ => l.length - (intOf i).toNat)
  case atStart => exact ⟨0, Nat.zero_le _, rfl, M0, B0⟩
  case round =>
    obtain ⟨k, hk9, rfl, hm, hb⟩ := hrel
    clear M0 B0
    by_cases hlt : k < l.length
    · obtain ⟨g, o, rfl, hg, c0⟩ := HC.out k hlt
      have c1 := (hb.out.cell (p := ⟨g, o + k, none⟩) hg).trans c0
      have HT : Hid (l.take (k + 1) = l.take k ++ [l[k]]) := List.take_succ_eq_append_getElem hlt
      have hrg := HI.out l[k] (List.getElem_mem hlt)
      have hki : (k : Int) < (l.length : Int) := by omega
      have htl : (l.take k).length ≤ 1000 := by rw [List.length_take]; omega
      generalize l[k] = x at c0 c1 HT hrg
      clear c0
      go_wp2_with fail
      refine (hwt x _).mono ?_
      rintro e w1 ⟨rfl, hb1⟩
      have m1 : Hid (WtM w1 w.heap.size W (l.take k)) := hm.out.kept hb1
      have hb2 : Hid (Below w.heap.size w w1) := (show Hid _ from hb.out.trans (hb1.mono hb.out.size))
      clear hb1 hm hb c1
      go_wp2_with (at_mapUpdate; refine wpList_putW _ rfl _ _ _ rfl w.heap.size W (l.take k) rfl m1.out htl x (by omega) (HW.out x) rfl rfl ?_; intro w2 hm2 hg2; have M2 : Hid (WtM w2 w.heap.size W (l.take (k + 1))) := (by rw [HT.out]; exact hm2); have B2 : Hid (Below w.heap.size w w2) := (show Hid _ from hb2.out.trans ⟨hg2.os, hg2.tape, hg2.output, hg2.size, fun i hi => hg2.block i (by have := hb2.out.size; omega) (fun e => by injection e with e; omega)⟩); clear hm2 hg2 m1 hb2)
      exact ⟨⟨k + 1, by omega, by go_num, M2, B2⟩, by simp [intOf]; omega⟩
    · have hki : ¬ (k : Int) < (l.length : Int) := by omega
      have MT : Hid (WtM wr w.heap.size W l) := (by have := hm.out; rw [List.take_of_length_le (by omega)] at this; exact this)
      clear hm
      go_wp2
      go_ret
      exact ⟨rfl, MT.out, hb.out⟩
end Go.Proofs.YtdbeoloonoodkaaDoor.Ih

/-
  The specification's logs by their contract.
-/
import Derived.Test.YtkoikofaebfbjaaPgC
import Derived.Test.YtkoikofaebfbjaaRowA
namespace Go.Proofs.Ytkoikofaebfbjaa
open Go.RowKit Pg
set_option linter.unusedVariables false
set_option linter.unusedSimpArgs false

theorem cellsG_at (l : List ByteArray) (j : Nat) (hj : j < l.length) : (cellsE txtE l)[j]? = some (.string l[j]) := by
  have := cellsE_at txtE l j hj 0 (by decide)
  rw [show j * txtE.k + 0 = j from by show j * 1 + 0 = j; omega] at this
  exact this
theorem Sls.txtG {w : World} {v : Value} {l : List ByteArray} (h : Sls txtE w v l) : ∃ a cap, v = .slice a l.length cap ∧ l.length ≤ cap ∧ cap ≤ maxLen ∧ (0 < l.length → ∃ g o, a = some ⟨g, o, Option.none⟩ ∧ g < w.heap.size ∧
    ∀ j (hj : j < l.length), w.cell? ⟨g, o + j, Option.none⟩ = some (.string l[j])) := by
  obtain ⟨a, cap, hv, h1, h2, h3⟩ := h
  refine ⟨a, cap, hv, h1, h2, fun h0 => ?_⟩
  obtain ⟨g, o, ha, hg, hc⟩ := h3 h0
  exact ⟨g, o, ha, hg, fun j hj => hc j _ (cellsG_at l j hj)⟩
theorem log_step {L : List ByteArray} {k : Nat} (h : k < L.length) (ha : (L.take k).all rdB = true) (hp : rdB L[k] = true) : (L.take (k + 1)).all rdB = true := by
  rw [List.take_succ_eq_append_getElem h, List.all_append, ha]
  simp [hp]
theorem log_bad {L : List ByteArray} {k : Nat} (h : k < L.length) (hp : rdB L[k] = false) : L.all rdB = false := by
  rw [List.all_eq_false]
  exact ⟨L[k], List.getElem_mem h, by simp [hp]⟩
set_option maxRecDepth 100000 in
set_option maxHeartbeats 2000000 in
theorem specLog (v : Value) (L : List ByteArray) (w : World) (h : Sls txtE w v L) (hs : ∀ x ∈ L, x.size ≤ 1048576) :
    Calls Try.prog 17 #[v] w fun e w' => e = .returned (.bool (logB L)) ∧ Below w.heap.size w w' := by
  obtain ⟨a, cap, rfl, h1, h2, h3⟩ := h.txtG
  have HC : Hid (0 < L.length → ∃ g o, a = some ⟨g, o, Option.none⟩ ∧ g < w.heap.size ∧ ∀ j (hj : j < L.length), w.cell? ⟨g, o + j, Option.none⟩ = some (.string L[j])) := h3
  have HS : Hid (∀ x ∈ L, x.size ≤ 1048576) := hs
  have hR := fun s W h => specRdp s W h
  unfold pgV at hR
  unfold maxLen at h2
  have hll : L.length ≤ 9223372036854775807 := by omega
  have H2 : Hid (cap ≤ 9223372036854775807) := (show cap ≤ _ by omega)
  clear h h2 h3 hs
  by_cases hb : 60 < L.length
  · have HE : Hid (false = logB L) := by show _ = _; unfold logB; rw [decide_eq_false (by omega)]; rfl
    have hbi : 60 < (L.length : Int) := by omega
    go_enter Try.func17, Try.ntmps17
    go_wp2
    go_ret
    exact ⟨congrArg (fun b => Ending.returned (.bool b)) HE.out, Below.refl _ _⟩
  · have HT : Hid (logB L = L.all rdB) := by show _ = _; unfold logB; rw [decide_eq_true (by omega)]; rfl
    have hbi : ¬ 60 < (L.length : Int) := by omega
    go_enter Try.func17, Try.ntmps17
    go_wp2
    go_loopw [3] (fun i wr => ∃ j : Nat, j ≤ L.length ∧ i = .int .i64 j ∧ Hid ((L.take j).all rdB = true) ∧ Hid (Below w.heap.size w wr)) (fun i _ => L.length - (intOf i).toNat)
    case atStart => exact ⟨0, Nat.zero_le _, rfl, (show Hid _ from rfl), (show Hid _ from Below.refl _ _)⟩
    case round =>
      obtain ⟨j, hj, rfl, hall, hb0⟩ := hrel
      by_cases hlt : j < L.length
      · obtain ⟨g, o, rfl, hg, hc⟩ := HC.out (by omega)
        have c1 := (hb0.out.cell (p := ⟨g, o + j, none⟩) hg).trans (hc j hlt)
        have hji : (j : Int) < (L.length : Int) := by omega
        have HA := fun (h : rdB L[j] = true) => log_step hlt hall.out h
        have HN := fun (h : rdB L[j] = false) => log_bad hlt h
        have hRj := fun W => hR L[j] W (HS.out _ (List.getElem_mem hlt))
        generalize L[j] = x at c1 HA HN hRj
        generalize rdV x = V at hRj
        obtain ⟨V1, V2⟩ := V
        simp only at hRj
        clear hc hR
        cases hrb : rdB x with
        | false =>
          have HE : Hid (false = logB L) := by show _ = _; rw [HT.out, HN hrb]
          rw [hrb] at hRj
          clear HA HN hrb
          go_wp2_with fail
          refine (hRj _).mono ?_
          rintro e w1 ⟨rfl, hb1⟩
          have B1 : Hid (Below w.heap.size w (w1.alloc (.cells #[.int .i64 V1, .string V2] 26))) := (show Hid _ from (hb0.out.trans (hb1.mono hb0.out.size)).alloc (by have := hb0.out.size; have := hb1.size; omega) _)
          clear hb1 hb0 hRj
          go_wp2
          go_ret
          exact ⟨congrArg (fun b => Ending.returned (.bool b)) HE.out, B1.out⟩
        | true =>
          have HA2 : Hid _ := HA hrb
          rw [hrb] at hRj
          clear HA HN hrb
          go_wp2_with fail
          refine (hRj _).mono ?_
          rintro e w1 ⟨rfl, hb1⟩
          have B1 : Hid (Below w.heap.size w (w1.alloc (.cells #[.int .i64 V1, .string V2] 26))) := (show Hid _ from (hb0.out.trans (hb1.mono hb0.out.size)).alloc (by have := hb0.out.size; have := hb1.size; omega) _)
          clear hb1 hb0 hRj
          go_wp2
          go_roundw
          case rel => exact ⟨j + 1, by omega, by go_num, HA2, B1⟩
          case measure => simp [intOf]; omega
      · obtain rfl : j = L.length := by omega
        have HE : Hid (true = logB L) := by
          have := hall.out
          rw [List.take_length] at this
          show _ = _
          rw [HT.out, this]
        go_wp2
        go_ret
        exact ⟨congrArg (fun b => Ending.returned (.bool b)) HE.out, hb0.out⟩
end Go.Proofs.Ytkoikofaebfbjaa

/-
  The program's logs by their contracts.
-/
import Derived.Test.YtkoikofaebfbjaaPiB
import Derived.Test.YtkoikofaebfbjaaPgL
import Derived.Laws.OwnMore
namespace Go.Proofs.Ytkoikofaebfbjaa
open Go.RowKit Pg
set_option linter.unusedVariables false
set_option linter.unusedSimpArgs false

abbrev PgT := Int × ByteArray
def pgE : Enc PgT where
  k := 2
  pos := by decide
  c := fun x => [.int .i64 x.1, .string x.2]
  len := fun _ => rfl
  one := fun x u hu => by simp at hu; rcases hu with rfl | rfl <;> rfl
theorem Try.infoPG : (Try.prog.info? 26).map (fun i => (i.zero, i.size, i.bytes)) = some (some (.agg #[.int .i64 0, .string ⟨#[]⟩]), 2, 24) := by kernel_rfl
theorem cellsPu_at (l : List PgT) (j : Nat) (hj : j < l.length) : (cellsE pgE l)[j * 2]? = some (.int .i64 l[j].1) ∧ (cellsE pgE l)[j * 2 + 1]? = some (.string l[j].2) :=
  ⟨cellsE_at pgE l j hj 0 (by decide), cellsE_at pgE l j hj 1 (by decide)⟩
abbrev OwnsPg := OwnsE pgE 26
theorem ownsPu_at {w : World} {B g n cap : Nat} {l : List PgT} (h : OwnsPg w B (.slice (some ⟨g, 0, Option.none⟩) n cap) l) (j : Nat) (hj : j < l.length) : w.cell? ⟨g, j * 2, Option.none⟩ = some (.int .i64 l[j].1) ∧ w.cell? ⟨g, j * 2 + 1, Option.none⟩ = some (.string l[j].2) :=
  ⟨h.at (i := 0) hj rfl, h.at (i := 1) hj rfl⟩
theorem ownsPu_put {w : World} {B g n cap : Nat} {l : List PgT} (hn : n = l.length) (h : OwnsPg w B (.slice (some ⟨g, 0, Option.none⟩) n cap) l) {j : Nat} (hj : j < l.length) (x : PgT) : OwnsPg ((w.setCell ⟨g, j * 2, Option.none⟩ (.int .i64 x.1)).setCell ⟨g, j * 2 + 1, Option.none⟩ (.string x.2)) B (.slice (some ⟨g, 0, Option.none⟩) n cap) (l.set j x) := by
  have h1 := h.put hn hj (i := 0) (by decide) (.int .i64 x.1) (x.1, l[j].2) rfl
  have h2 := h1.put (by rw [List.length_set]; exact hn) (j := j) (by rw [List.length_set]; exact hj) (i := 1) (by decide) (.string x.2) x (by rw [List.getElem_set_self]; rfl)
  rw [List.set_set] at h2
  exact h2
theorem madePu (n : Nat) : (madeCells (Value.cells (.agg #[.int .i64 0, .string ⟨#[]⟩])) (n * 2)).toList = cellsE pgE (List.replicate n ((0, ⟨#[]⟩) : PgT)) := by
  apply List.ext_getElem?
  intro j
  by_cases hj : j < n * 2
  · obtain ⟨c1, c2⟩ := cellsPu_at (List.replicate n ((0, ⟨#[]⟩) : PgT)) (j / 2) (by simp; omega)
    have h2 : j = j / 2 * 2 ∨ j = j / 2 * 2 + 1 := by omega
    rcases h2 with h2 | h2
    · have e : (madeCells (Value.cells (.agg #[.int .i64 0, .string ⟨#[]⟩])) (n * 2)).toList[j]? = some (.int .i64 0) := by
        have h3 : j % 2 = 0 := by omega
        simp [madeCells, hj, Value.cells, h3]
      rw [e]
      rw [h2, c1]; simp
    · have e : (madeCells (Value.cells (.agg #[.int .i64 0, .string ⟨#[]⟩])) (n * 2)).toList[j]? = some (.string ⟨#[]⟩) := by
        have h3 : j % 2 = 1 := by omega
        simp [madeCells, hj, Value.cells, h3]
      rw [e]
      rw [h2, c2]; simp
  · rw [List.getElem?_eq_none (by simp [madeCells]; omega), List.getElem?_eq_none (by rw [cellsE_length]; show _ ≤ j; simp; show n * 2 ≤ j; omega)]
/-- Read so far: the first k, and behind them zero ones. -/
def turnPu (l : List PgT) (k : Nat) : List PgT := l.take k ++ List.replicate (l.length - k) (0, ⟨#[]⟩)
theorem turnPu_length (l : List PgT) (k : Nat) (hk : k ≤ l.length) : (turnPu l k).length = l.length := by unfold turnPu; simp; omega
theorem turnPu_zero (l : List PgT) : turnPu l 0 = List.replicate l.length (0, ⟨#[]⟩) := by simp [turnPu]
theorem turnPu_all (l : List PgT) : turnPu l l.length = l := by simp [turnPu]
theorem turnPu_next (l : List PgT) (k : Nat) (hk : k < l.length) : (turnPu l k).set k l[k] = turnPu l (k + 1) := by
  unfold turnPu
  have e : (l.take k).length = k := by simp; omega
  rw [List.set_append_right _ _ (by omega), e, Nat.sub_self, List.take_succ_eq_append_getElem hk, List.append_assoc]
  congr 1
  rw [show l.length - k = (l.length - (k + 1)) + 1 from by omega, List.replicate_succ, List.set_cons_zero]
  rfl
/-- What purgesOf answers: the purges, in a row of the call's own, or none. -/
structure PgsQ (w w' : World) (L : List ByteArray) (u : Value) : Prop where
  form : ∃ ua un uc, u = .slice ua un uc
  own : logB L = true → OwnsPg w' w.heap.size u (L.map rdP)
  low : Below w.heap.size w w'
set_option maxRecDepth 100000 in
set_option maxHeartbeats 4000000 in
theorem implPgs (v : Value) (L : List ByteArray) (w : World) (h : Sls txtE w v L) (hs : ∀ x ∈ L, x.size ≤ 1048576) :
    Calls Try.prog 26 #[v] w fun e w' => ∃ u, e = .returned (.tuple #[u, .bool (logB L)]) ∧ PgsQ w w' L u := by
  obtain ⟨T, hT⟩ : ∃ T, logB L = T := ⟨_, rfl⟩
  have HTT : Hid (logB L = T) := hT
  rw [hT]
  clear hT
  obtain ⟨a, cap, rfl, h1, h2, h3⟩ := h.txtG
  have HC : Hid (0 < L.length → ∃ g o, a = some ⟨g, o, Option.none⟩ ∧ g < w.heap.size ∧ ∀ j (hj : j < L.length), w.cell? ⟨g, o + j, Option.none⟩ = some (.string L[j])) := h3
  have HS : Hid (∀ x ∈ L, x.size ≤ 1048576) := hs
  have hR := fun s W h => implRdp s W h
  unfold pgV at hR
  unfold maxLen at h2
  have hll : L.length ≤ 9223372036854775807 := by omega
  have H2 : Hid (cap ≤ 9223372036854775807) := (show cap ≤ _ by omega)
  clear h h2 h3 hs
  by_cases hb : 60 < L.length
  · have HE : Hid (T = false) := by show _ = _; rw [← HTT.out]; unfold logB; rw [decide_eq_false (by omega)]; rfl
    have hbi : 60 < (L.length : Int) := by omega
    go_enter Try.func26, Try.ntmps26
    go_wp2
    go_ret2
    exact ⟨.slice none 0 0, by rw [HE.out]; rfl, ⟨⟨_, _, _, rfl⟩, fun h => by rw [HTT.out, HE.out] at h; exact (Bool.noConfusion h), Below.refl _ _⟩⟩
  · have HT : Hid (logB L = L.all rdB) := by show _ = _; unfold logB; rw [decide_eq_true (by omega)]; rfl
    have hbi : ¬ 60 < (L.length : Int) := by omega
    obtain ⟨i0, hi, hz0, hz1, hz2⟩ := info_parts Try.infoPG
    obtain ⟨w0, hrun, hown, hgr⟩ := run_make_full (P := Try.prog) w w.heap.size 44 26 i0 (.agg #[.int .i64 0, .string ⟨#[]⟩]) 2 Try.underlying44 hi hz0 hz1 .i64 .i64 L.length (by rw [hz2]; omega) (by unfold maxLen; omega) (Nat.le_refl _)
    have hml : (L.map rdP).length = L.length := List.length_map ..
    have hown0 : Hid (OwnsPg w0 w.heap.size (.slice (some ⟨w.heap.size, 0, Option.none⟩) L.length L.length) (turnPu (L.map rdP) 0)) := by
      rw [madePu] at hown
      show w0.ownsRow _ _ 2 _ _ _
      rw [turnPu_length _ 0 (Nat.zero_le _), turnPu_zero, hml]
      exact hown
    have hb0 : Hid (Below w.heap.size w w0) := (show Below _ _ _ from (Below.refl _ w).grown hgr (Nat.le_refl _) (fun j hj => by cases hj))
    clear hown hgr hi hz0 hz1 hz2 hml
    go_enter Try.func26, Try.ntmps26
    go_wp2
    go_loopw [17] (fun i wr => ∃ j : Nat, j ≤ L.length ∧ i = .int .i64 j ∧ Hid ((L.take j).all rdB = true) ∧ Hid (OwnsPg wr w.heap.size (.slice (some ⟨w.heap.size, 0, Option.none⟩) L.length L.length) (turnPu (L.map rdP) j)) ∧ Hid (Below w.heap.size w wr)) (fun i _ => L.length - (intOf i).toNat)
    case atStart => exact ⟨0, Nat.zero_le _, rfl, (show Hid _ from rfl), hown0, hb0⟩
    case round =>
      clear hown0 hb0 hrun
      obtain ⟨j, hj, rfl, hall, ho, hb0⟩ := hrel
      by_cases hlt : j < L.length
      · obtain ⟨g, o, rfl, hg, hc⟩ := HC.out (by omega)
        have c1 := (hb0.out.cell (p := ⟨g, o + j, none⟩) hg).trans (hc j hlt)
        have hji : (j : Int) < (L.length : Int) := by omega
        have HA := fun (h : rdB L[j] = true) => log_step hlt hall.out h
        have HN := fun (h : rdB L[j] = false) => log_bad hlt h
        have hRj := fun W => hR L[j] W (HS.out _ (List.getElem_mem hlt))
        have HNX : Hid (rdB L[j] = true → (turnPu (L.map rdP) j).set j (rdV L[j]) = turnPu (L.map rdP) (j + 1)) := (show _ → _ from fun h => by
          have := turnPu_next (L.map rdP) j (by rw [List.length_map]; exact hlt)
          rw [List.getElem_map] at this
          rw [← this]
          unfold rdV
          rw [if_pos h])
        have HLN : Hid ((turnPu (L.map rdP) j).length = L.length) := (show _ = _ by rw [turnPu_length _ _ (by rw [List.length_map]; exact hj), List.length_map])
        generalize L[j] = x at c1 HA HN hRj HNX
        generalize rdV x = V at hRj HNX
        obtain ⟨V1, V2⟩ := V
        simp only at hRj
        clear hc hR
        cases hrb : rdB x with
        | false =>
          have HE : Hid (T = false) := by show _ = _; rw [← HTT.out, HT.out, HN hrb]
          rw [hrb] at hRj
          clear HA HN hrb HNX
          go_wp2_with fail
          refine (hRj _).mono ?_
          rintro e w1 ⟨rfl, hb1⟩
          have B1 : Hid (Below w.heap.size w (w1.alloc (.cells #[.int .i64 V1, .string V2] 26))) := (show Hid _ from (hb0.out.trans (hb1.mono hb0.out.size)).alloc (by have := hb0.out.size; have := hb1.size; omega) _)
          clear hb1 hb0 hRj ho
          go_wp2
          go_ret2
          exact ⟨.slice none 0 0, by rw [HE.out]; rfl, ⟨⟨_, _, _, rfl⟩, fun h => by rw [HTT.out, HE.out] at h; exact (Bool.noConfusion h), B1.out⟩⟩
        | true =>
          have HA2 : Hid _ := HA hrb
          have HNX2 : Hid _ := HNX.out hrb
          rw [hrb] at hRj
          clear HA HN hrb HNX
          go_wp2_with fail
          refine (hRj _).mono ?_
          rintro e w1 ⟨rfl, hb1⟩
          have ho1 : Hid (OwnsPg (w1.alloc (.cells #[.int .i64 V1, .string V2] 26)) w.heap.size (.slice (some ⟨w.heap.size, 0, Option.none⟩) L.length L.length) (turnPu (L.map rdP) j)) := (show OwnsPg _ _ _ _ from (ho.out.kept hb1).kept ((Below.refl _ w1).alloc (Nat.le_refl _) _))
          have X1 : Hid (Bx (w1.alloc (.cells #[.int .i64 V1, .string V2] 26)) w1.heap.size 26 #[.int .i64 V1, .string V2]) := (show Hid _ from Bx.new w1 _ _)
          have B1 : Hid (Below w.heap.size w (w1.alloc (.cells #[.int .i64 V1, .string V2] 26))) := (show Hid _ from (hb0.out.trans (hb1.mono hb0.out.size)).alloc (by have := hb0.out.size; have := hb1.size; omega) _)
          generalize hwB : w1.alloc (.cells #[.int .i64 V1, .string V2] 26) = wB at ho1 X1 B1
          have x0 := X1.out.cell 0
          have x1 := X1.out.cell 1
          have hlt2 : j < (turnPu (L.map rdP) j).length := by rw [HLN.out]; exact hlt
          obtain ⟨d1, d2⟩ := ownsPu_at ho1.out j hlt2
          have f1 := ho1.out.free HLN.out.symm (j * 2)
          have f2 := ho1.out.free HLN.out.symm (j * 2 + 1)
          have HP : Hid (OwnsPg ((wB.setCell ⟨w.heap.size, j * 2, none⟩ (.int .i64 V1)).setCell ⟨w.heap.size, j * 2 + 1, none⟩ (.string V2)) w.heap.size (.slice (some ⟨w.heap.size, 0, Option.none⟩) L.length L.length) (turnPu (L.map rdP) (j + 1))) := by
            have := ownsPu_put HLN.out.symm ho1.out hlt2 (V1, V2)
            rw [HNX2.out] at this
            exact this
          generalize ((turnPu (L.map rdP) j)[j]'hlt2) = dd at d1 d2
          clear hb1 hb0 hRj ho HNX2 HLN hlt2 X1 ho1
          go_wp2
          go_roundw
          case rel => exact ⟨j + 1, by omega, by go_num, HA2, HP, (show Hid _ from (B1.out.setCell (Nat.le_refl _) _).setCell (Nat.le_refl _) _)⟩
          case measure => simp [intOf]; omega
      · obtain rfl : j = L.length := by omega
        have HE : Hid (T = true) := by
          have := hall.out
          rw [List.take_length] at this
          show _ = _
          rw [← HTT.out, HT.out, this]
        have HO : Hid (OwnsPg wr w.heap.size (.slice (some ⟨w.heap.size, 0, Option.none⟩) L.length L.length) (L.map rdP)) := by
          have := ho.out
          have e : turnPu (L.map rdP) L.length = L.map rdP := by have := turnPu_all (L.map rdP); rw [List.length_map] at this; exact this
          rw [e] at this
          exact this
        clear ho
        go_wp2
        go_ret2
        exact ⟨.slice (some ⟨w.heap.size, 0, Option.none⟩) L.length L.length, by rw [HE.out]; rfl, ⟨⟨_, _, _, rfl⟩, fun _ => HO.out, hb0.out⟩⟩
theorem implLog (v : Value) (L : List ByteArray) (w : World) (h : Sls txtE w v L) (hs : ∀ x ∈ L, x.size ≤ 1048576) :
    Calls Try.prog 19 #[v] w fun e w' => e = .returned (.bool (logB L)) ∧ Below w.heap.size w w' := by
  have j1 := fun W hW => implPgs v L W hW hs
  have HH : Hid (Sls txtE w v L) := h
  obtain ⟨a, cap, rfl, _⟩ := h.txtG
  clear h
  go_enter Try.func19, Try.ntmps19
  go_wp2_with fail
  refine (j1 _ HH.out).mono ?_
  rintro e w1 ⟨u, rfl, ⟨ua, un, uc, rfl⟩, _, hb⟩
  go_wp2
  go_ret
  exact ⟨rfl, hb⟩
end Go.Proofs.Ytkoikofaebfbjaa

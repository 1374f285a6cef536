/-
  The program's placeOf: the place of a key among Items.
-/
import Derived.Test.YtnnmbgenepfacaaRomT
import Derived.Test.YtnnmbgenepfacaaRpB
namespace Go.Proofs.Ytnnmbgenepfacaa
open Go.RowKit Go.Sort Rom
set_option linter.unusedVariables false
set_option linter.unusedSimpArgs false

theorem implKeyIs (x : It) (kb : Nat) (key : ByteArray) (w : World) (hk : w.cell? ⟨kb, 0, none⟩ = some (.string key)) (hb : kb < w.heap.size) :
    Calls Try.prog 91 #[itV x, .pointer (some ⟨kb, 0, none⟩)] w fun e w' => e = .returned (.bool (decide (x.1 = key))) ∧ Below w.heap.size w w' := by
  obtain ⟨x1, x2⟩ := x
  unfold itV
  have B0 : Hid (Below w.heap.size w (w.alloc (.cells #[.string x1, .int .i64 x2] 47))) := (Below.refl _ w).alloc (Nat.le_refl _) _
  by_cases e : x1 = key
  · have q1 := key_eq e
    rw [decide_eq_true (show (x1, x2).1 = key from e)]
    clear e
    go_enter Try.func91, Try.ntmps91
    go_wp2
    go_ret
    exact ⟨rfl, B0.out⟩
  · have q1 := key_ne e
    rw [decide_eq_false (show ¬ (x1, x2).1 = key from e)]
    clear e
    go_enter Try.func91, Try.ntmps91
    go_wp2
    go_ret
    exact ⟨rfl, B0.out⟩
def plO (key : ByteArray) : List It → Option Nat
  | [] => none
  | x :: l => if x.1 = key then some 0 else (plO key l).map (· + 1)
theorem plO_at {key : ByteArray} : ∀ {l : List It} {k : Nat} (h : k < l.length), l[k].1 = key → key ∉ (l.take k).map Prod.fst → plO key l = some k
  | [], k, h, _, _ => absurd h (by simp)
  | y :: l, 0, h, e, _ => by
    have e' : y.1 = key := e
    rw [plO, if_pos e']
  | y :: l, k + 1, h, e, hn => by
    have hy : y.1 ≠ key := fun e2 => hn (by rw [List.take_succ_cons, List.map_cons, e2]; exact List.mem_cons_self ..)
    rw [plO, if_neg hy, plO_at (l := l) (k := k) (by simpa using h) (by simpa using e) (fun hm => hn (by rw [List.take_succ_cons, List.map_cons]; exact List.mem_cons_of_mem _ hm))]
    rfl
theorem plO_no {key : ByteArray} : ∀ {l : List It}, key ∉ l.map Prod.fst → plO key l = none
  | [], _ => rfl
  | y :: l, h => by
    rw [List.map_cons, List.mem_cons, not_or] at h
    rw [plO, if_neg (fun e => h.1 e.symm), plO_no h.2]
    rfl
theorem plO_in {key : ByteArray} : ∀ {l : List It} {k : Nat}, plO key l = some k → ∃ hk : k < l.length, l[k].1 = key
  | [], k, h => by cases h
  | y :: l, k, h => by
    rw [plO] at h
    split at h
    · rename_i e
      injection h with h
      subst h
      exact ⟨by simp, e⟩
    · cases hp : plO key l with
      | none => rw [hp] at h; cases h
      | some m =>
        rw [hp] at h
        injection h with h
        obtain ⟨hm, e⟩ := plO_in hp
        subst h
        exact ⟨by simpa using hm, by simpa using e⟩
def plA (l : List It) (key : ByteArray) : Int := match plO key l with
  | some k => (k : Int)
  | none => -1
theorem plA_at {l : List It} {key : ByteArray} {k : Nat} (h : k < l.length) (e : l[k].1 = key) (hn : key ∉ (l.take k).map Prod.fst) : plA l key = (k : Int) := by
  unfold plA
  rw [plO_at h e hn]
theorem plA_no {l : List It} {key : ByteArray} (h : key ∉ l.map Prod.fst) : plA l key = -1 := by unfold plA; rw [plO_no h]
theorem plA_some {l : List It} {key : ByteArray} : (∃ k, ∃ hk : k < l.length, plA l key = (k : Int) ∧ l[k].1 = key) ∨ (plA l key = -1 ∧ plO key l = none) := by
  unfold plA
  cases h : plO key l with
  | none => exact .inr ⟨rfl, rfl⟩
  | some k =>
    obtain ⟨hk, e⟩ := plO_in h
    exact .inl ⟨k, hk, rfl, e⟩
theorem plO_none {key : ByteArray} : ∀ {l : List It}, plO key l = none → key ∉ l.map Prod.fst
  | [], _ => by simp
  | y :: l, h => by
    rw [plO] at h
    split at h
    · cases h
    · rename_i e
      rw [List.map_cons, List.mem_cons, not_or]
      refine ⟨fun e2 => e e2.symm, plO_none ?_⟩
      cases hp : plO key l with
      | none => rfl
      | some m => rw [hp] at h; cases h
set_option maxHeartbeats 1000000 in
theorem implIdxF (v : Value) (l : List It) (kb : Nat) (key : ByteArray) (w : World) (h : Sls itE w v l) (hk : w.cell? ⟨kb, 0, none⟩ = some (.string key)) (hb : kb < w.heap.size) :
    Calls Try.prog 90 #[v, .func (.func 91) #[] #[.pointer (some ⟨kb, 0, none⟩)]] w fun e w' => e = .returned (.int .i64 (plA l key)) ∧ Below w.heap.size w w' := by
  obtain ⟨a, cap, rfl, h1, h2, h3⟩ := h.itm
  unfold maxLen at h2
  have HK : Hid (∀ W, Below w.heap.size w W → W.cell? ⟨kb, 0, none⟩ = some (.string key) ∧ kb < W.heap.size) := (show ∀ _, _ from fun W hW => ⟨(hW.cell (p := ⟨kb, 0, none⟩) hb).trans hk, Nat.lt_of_lt_of_le hb hW.size⟩)
  clear h hk
  go_enter Try.func90, Try.ntmps90
  go_wp2
  go_loopw [8] (fun i wr => ∃ k : Nat, k ≤ l.length ∧ i = .int .i64 k ∧ Hid (key ∉ (l.take k).map Prod.fst) ∧ Hid (Below w.heap.size w wr)) (fun i _ => l.length - (intOf i).toNat)
  case atStart => exact ⟨0, Nat.zero_le _, rfl, (show Hid _ from (by simp : key ∉ (l.take 0).map Prod.fst)), (show Hid _ from Below.refl _ _)⟩
  case round =>
    obtain ⟨k, hk, rfl, hno, hbr⟩ := hrel
    by_cases hlt : k < l.length
    · obtain ⟨g, o, rfl, hg, hc⟩ := h3 (by omega)
      have c1 := (hbr.out.cell (p := ⟨g, o + k * 2, none⟩) hg).trans (hc k hlt).1
      have c2 := (hbr.out.cell (p := ⟨g, o + k * 2 + 1, none⟩) hg).trans (hc k hlt).2
      obtain ⟨y1, y2⟩ := HK.out wr hbr.out
      have HA : Hid (l[k].1 = key → (k : Int) = plA l key) := (show _ → _ from fun e => (plA_at hlt e hno.out).symm)
      have HN : Hid (l[k].1 ≠ key → key ∉ (l.take (k + 1)).map Prod.fst) := by
        intro hne
        rw [List.take_succ_eq_append_getElem hlt, List.map_append]
        intro hm
        rcases List.mem_append.1 hm with q | q
        · exact hno.out q
        · simp at q
          exact hne q.symm
      have hcl := implKeyIs l[k] kb key wr y1 y2
      have hki : (k : Int) < (l.length : Int) := by omega
      unfold itV at hcl
      generalize l[k] = x at c1 c2 HA HN hcl
      obtain ⟨x1, x2⟩ := x
      dsimp only at c1 c2 HA HN hcl
      clear h3 hc y1
      by_cases e : x1 = key
      · have HE : Hid _ := HA.out e
        rw [decide_eq_true e] at hcl
        clear e HA HN
        go_wp2_with fail
        refine hcl.mono ?_
        rintro e w1 ⟨rfl, hb1⟩
        have HB1 : Hid (Below w.heap.size w w1) := (show Hid _ from hbr.out.trans (hb1.mono hbr.out.size))
        clear hb1 hcl c1 c2 hbr
        go_wp2
        go_ret
        exact ⟨congrArg (fun b => Ending.returned (.int .i64 b)) HE.out, HB1.out⟩
      · have HM : Hid _ := HN.out e
        rw [decide_eq_false e] at hcl
        clear e HA HN
        go_wp2_with fail
        refine hcl.mono ?_
        rintro e w1 ⟨rfl, hb1⟩
        have HB1 : Hid (Below w.heap.size w w1) := (show Hid _ from hbr.out.trans (hb1.mono hbr.out.size))
        clear hb1 hcl c1 c2 hbr
        go_wp2
        go_roundw
        case rel => exact ⟨k + 1, by omega, by go_num, HM, HB1⟩
        case measure => simp [intOf]; omega
    · obtain rfl : k = l.length := by omega
      have HE : Hid (-1 = plA l key) := by
        have := hno.out
        rw [List.take_of_length_le (Nat.le_refl _)] at this
        exact (plA_no this).symm
      go_wp2
      go_ret
      exact ⟨congrArg (fun b => Ending.returned (.int .i64 b)) HE.out, hbr.out⟩
theorem implPlc (v : Value) (l : List It) (key : ByteArray) (w : World) (h : Sls itE w v l) :
    Calls Try.prog 72 #[v, .string key] w fun e w' => e = .returned (.int .i64 (plA l key)) ∧ Below w.heap.size w w' := by
  have B0 : Below w.heap.size w (w.alloc (.cells #[.string key] 9)) := (Below.refl _ w).alloc (Nat.le_refl _) _
  have c0 : (w.alloc (.cells #[.string key] 9)).cell? ⟨w.heap.size, 0, none⟩ = some (.string key) := by rw [World.cell?_alloc_mark]; rfl
  have hf := implIdxF v l w.heap.size key _ (h.kept B0) c0 (by simp)
  have HB0 : Hid _ := B0
  have hz : (w.alloc (.cells #[.string key] 9)).heap.size = w.heap.size + 1 := by simp
  obtain ⟨a, cap, rfl, _⟩ := h.itm
  clear h c0 B0
  go_enter Try.func72, Try.ntmps72
  go_wp2_with fail
  refine hf.mono ?_
  rintro e w1 ⟨rfl, hb1⟩
  have HB1 : Hid (Below w.heap.size w w1) := (show Hid _ from HB0.out.trans (hb1.mono HB0.out.size))
  clear hb1 hf hz
  go_wp2
  go_ret
  exact ⟨rfl, HB1.out⟩
end Go.Proofs.Ytnnmbgenepfacaa

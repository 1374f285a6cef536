/-
  The specification's Best: when a number comes again, and what is dropped.
-/
import Derived.Test.YtnnmbgenepfacaaRomC
namespace Go.Proofs.Ytnnmbgenepfacaa
open Go.RowKit Go.Sort Rom
set_option linter.unusedVariables false
set_option linter.unusedSimpArgs false

theorem specDis (v : Value) (t : List Int) (i : Int) (w : World) (h : Sls numE w v t) (hc : t.length ≤ 1048576) :
    Calls Try.prog 22 #[v, .int .i64 i] w fun e w' => e = .returned (.int .i64 (disA t i)) ∧ Below w.heap.size w w' := by
  have HT := specTold _ t 1 w h
  cases hT : toldB t 1 with
  | false =>
    obtain ⟨a, cap, rfl, _⟩ := h.one
    have HR : Hid (-1 = disA t i) := by show _ = _; unfold disA; rw [if_neg (by simp [hT])]
    rw [hT] at HT
    go_enter Try.func22, Try.ntmps22
    go_wp2_with (go_at_call 57; refine HT.mono ?_; rintro e w' ⟨rfl, rfl⟩)
    go_ret
    exact ⟨congrArg (fun z => Ending.returned (.int .i64 z)) HR.out, Below.refl _ _⟩
  | true =>
    cases hi : inM i 0 ((t.length : Int) - 1) with
    | false =>
      obtain ⟨a, cap, rfl, _⟩ := h.one
      have HR : Hid (-1 = disA t i) := by show _ = _; unfold disA; rw [if_neg (by simp [hi])]
      rw [hT] at HT
      go_enter Try.func22, Try.ntmps22
      go_wp2_with (first | (go_at_call 57; refine HT.mono ?_; rintro e w' ⟨rfl, rfl⟩) | (go_at_call 60; refine (inRm _ _ _ _).mono ?_; rintro e w' ⟨rfl, rfl⟩; rw [hi]))
      go_ret
      exact ⟨congrArg (fun z => Ending.returned (.int .i64 z)) HR.out, Below.refl _ _⟩
    | true =>
      have hi2 : 0 ≤ i ∧ i ≤ (t.length : Int) - 1 := of_decide_eq_true hi
      obtain ⟨n, rfl⟩ : ∃ n : Nat, i = (n : Int) := ⟨i.toNat, by omega⟩
      have e : disA t (n : Int) = (dis t n : Int) := by unfold disA; rw [if_pos ⟨hT, hi⟩, Int.toNat_natCast]
      rw [e]
      exact specDisIn v t n w h (toldB_parts hT).1 hT (by omega)

theorem drop_idx {t : List Int} {j : Nat} {x : Int} (h : j < t.length) : (t.drop j).idxOf x = if t[j] = x then 0 else (t.drop (j + 1)).idxOf x + 1 := by
  rw [List.drop_eq_getElem_cons h]
  by_cases e : t[j] = x
  · rw [if_pos e, e, List.idxOf_cons_self]
  · rw [if_neg e, idx_ne _ e]
theorem specAgain (v : Value) (t : List Int) (i : Nat) (x : Int) (w : World) (h : Sls numE w v t) (hi : i < t.length) (hl : t.length ≤ 60) :
    Calls Try.prog 66 #[v, .int .i64 (i : Int), .int .i64 x] w fun e w' => e = .returned (.int .i64 ((i + 1 + (t.drop (i + 1)).idxOf x : Nat) : Int)) ∧ w = w' := by
  obtain ⟨a, cap, rfl, h1, h2, h3⟩ := h.one
  obtain ⟨g, q, rfl, hg, hc⟩ := h3 (by omega)
  have HC : Hid (∀ (j : Nat) (hj : j < t.length), w.cell? ⟨g, q + j, none⟩ = some (.int .i64 t[j])) := hc
  obtain ⟨A, hA⟩ : ∃ A : Nat, A = i + 1 + (t.drop (i + 1)).idxOf x := ⟨_, rfl⟩
  have HA : Hid (A = i + 1 + (t.drop (i + 1)).idxOf x) := hA
  rw [← hA]
  clear h h2 h3 hc hA
  go_enter Try.func66, Try.ntmps66
  go_wp2
  go_loop [7] (fun z => ∃ j : Nat, j ≤ t.length ∧ z = .int .i64 j ∧ Hid (A = j + (t.drop j).idxOf x)) (fun z => t.length - (intOf z).toNat)
  case atStart => exact ⟨i + 1, by omega, by simp, HA⟩
  case round =>
    obtain ⟨j, hj, rfl, hAj⟩ := hrel
    by_cases hlt : j < t.length
    · have c0 := HC.out j hlt
      have hd := drop_idx (x := x) hlt
      have hji : (j : Int) < (t.length : Int) := by omega
      by_cases e : t[j] = x
      · rw [if_pos e] at hd
        have HE : Hid ((j : Int) = (A : Int)) := by show _ = _; rw [hAj.out, hd]; rfl
        generalize t[j] = y at c0 e
        have e1 : (y == x) = true := by simpa using e
        clear hd e
        go_wp2
        go_ret
        exact ⟨congrArg (fun z => Ending.returned (.int .i64 z)) HE.out, rfl⟩
      · rw [if_neg e] at hd
        have HE : Hid (A = j + 1 + (t.drop (j + 1)).idxOf x) := by show _ = _; rw [hAj.out, hd]; omega
        generalize t[j] = y at c0 e
        have e1 : (y == x) = false := by simpa using e
        clear hd e
        go_wp2
        go_round
        case rel => exact ⟨j + 1, by omega, by go_num, HE⟩
        case measure => simp [intOf]; omega
    · obtain rfl : j = t.length := by omega
      have HE : Hid ((t.length : Int) = (A : Int)) := by
        show _ = _
        rw [hAj.out, List.drop_of_length_le (Nat.le_refl _)]
        simp
      go_wp2
      go_ret
      exact ⟨congrArg (fun z => Ending.returned (.int .i64 z)) HE.out, rfl⟩
theorem cutN {w : World} {B g n cap k : Nat} {l : List Int} (h : OwnsN w B (.slice (some ⟨g, 0, Option.none⟩) n cap) l) (hn : n = l.length) (hk : k ≤ l.length) : ∃ A : Addr, (if cap = k then some (⟨g, 0, Option.none⟩ : Addr) else some ⟨g, k, Option.none⟩) = some A ∧ ∀ x : World, x.heap[g]? = w.heap[g]? → ∀ j u, (cellsE numE (l.drop k))[j]? = some u → x.cell? (A.add j) = some u := by
  subst hn
  obtain ⟨a, c, e, h1, _, _⟩ := h.form
  injection e with _ _ e3
  subst e3
  by_cases e : cap = k
  · refine ⟨⟨g, 0, Option.none⟩, by rw [if_pos e], fun x _ j u hu => ?_⟩
    rw [List.drop_of_length_le (by omega)] at hu
    simp [cellsE] at hu
  · refine ⟨⟨g, k, Option.none⟩, by rw [if_neg e], fun x hx j u hu => ?_⟩
    rw [cellsE_drop numE l k hk, List.getElem?_drop] at hu
    rw [show k * numE.k = k from Nat.mul_one k] at hu
    have k1 := World.ownsRow.cells h (g := g) rfl (k + j) u hu
    rw [addr_add] at k1 ⊢
    rw [Nat.zero_add] at k1
    rw [← k1]
    simp only [World.cell?]
    rw [hx]
end Go.Proofs.Ytnnmbgenepfacaa

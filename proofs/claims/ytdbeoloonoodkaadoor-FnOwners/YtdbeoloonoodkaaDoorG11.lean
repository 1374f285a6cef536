/-
  The specification's servers, and those without one.
  The specification's Best: when a number comes again, and what is dropped.
-/
import Derived.Test.YtdbeoloonoodkaaDoorG10
import Derived.Deep.DeepCutAuto
import Derived.Lib.QuietBelow
namespace Go.Proofs.YtdbeoloonoodkaaDoor
open Go.RowKit Go.Sort Ow
set_option linter.unusedVariables false
set_option linter.unusedSimpArgs false

theorem pastO {w w1 w2 : World} (h : Below w.heap.size w w1) (hb : Below w1.heap.size w1 w2) : Below w.heap.size w w2 := h.trans (hb.mono h.size)
theorem specSrvR (s : Int) (b : Bool) (h : inS s = b) (w : World) (d : Nat) (os : Array Obj) : Calls Tryd.prog 51 #[.int .i64 s] (grow (redrawn w d) os) fun e w'' => e = .returned (.bool b) ∧ ∃ p : Regrown, w'' = grow (redrawn w p.d) p.os :=
  Calls.regrown_of ((specSrv s _).mono fun e w' ⟨h1, h2⟩ => ⟨by rw [h1, h], h2 ▸ Below.refl _ _⟩)
set_option maxRecDepth 100000 in
set_option maxHeartbeats 1000000 in
theorem specSrvs (v : Value) (l : List Int) (w : World) (h : Sls intE w v l) :
    Calls Tryd.prog 46 #[v] w fun e w' => e = .returned (.bool (srvOk l)) ∧ Below w.heap.size w w' := by
  obtain ⟨a, cap, rfl, h1, h2, h3⟩ := h.one
  have H2 : Hid (cap ≤ maxLen) := h2
  clear h h2
  by_cases hl1 : 1 ≤ l.length
  · by_cases hl9 : l.length ≤ 9
    · have e1 : ¬ (l.length : Int) < 1 := by omega
      have e2 : ¬ (9 : Int) < (l.length : Int) := by omega
      obtain ⟨g, o, rfl, hg, hc⟩ := h3 (by omega)
      have HC : Hid (∀ j (hj : j < l.length), w.cell? ⟨g, o + j, none⟩ = some (.int .i64 l[j])) := hc
      clear h3 hc
      go_enter Tryd.func46, Tryd.ntmps46
      go_wp2
      go_loopw [3] (fun i wr => ∃ k : Nat, k ≤ l.length ∧ i = .int .i64 k ∧ Hid (∀ (i : Nat) (hi : i < l.length), i < k → stepOk l i hi) ∧ Hid (Below w.heap.size w wr)) (fun i _ => l.length - (intOf i).toNat)
      case atStart => exact ⟨0, Nat.zero_le _, rfl, (show ∀ _, _ from fun i hi h => by omega), (show Hid _ from Below.refl _ _)⟩
      case round =>
        obtain ⟨k, hk, rfl, hst, hb⟩ := hrel
        by_cases hlt : k < l.length
        · have c1 := (hb.out.cell (p := ⟨g, o + k, none⟩) hg).trans (HC.out k hlt)
          have hki : (k : Int) < (l.length : Int) := by omega
          have k1 := cell_regrown c1
          cases hin : inS l[k] with
          | false =>
            have HR : Hid (srvOk l = false) := srvOk_not k hlt (fun h => absurd (hin.symm.trans h.1) (by simp))
            have j1 := specSrvR l[k] false hin wr
            generalize l[k] = x at c1 k1 j1
            clear c1 hin
            go_wp2_with fail
            refine wp_region_quiet_below (by kernel_rfl) (by kernel_rfl) ?_
            repeat (go_big_quiet_step (with_reducible exact j1 _ _))
            refine wpQuiet_nil ?_
            intro _ hw'
            obtain ⟨⟨dq, osq⟩, hw''⟩ := hw'
            subst hw''
            have BN : Hid (Below w.heap.size w (grow (redrawn wr dq) osq)) := (show Hid _ from pastO hb.out (below_regrown wr dq osq))
            generalize grow (redrawn wr dq) osq = wn at BN ⊢
            go_wp2
            go_ret
            exact ⟨congrArg (fun b => Ending.returned (.bool b)) HR.out.symm, BN.out⟩
          | true =>
            have j1 := specSrvR l[k] true hin wr
            by_cases hk0 : 0 < k
            · have c0 := (hb.out.cell (p := ⟨g, o + (k - 1), none⟩) hg).trans (HC.out (k - 1) (by omega))
              have k0 := cell_regrown c0
              by_cases hle : l[k] ≤ l[k - 1]
              · have HR : Hid (srvOk l = false) := srvOk_not k hlt (fun h => by have := h.2 hk0; omega)
                generalize l[k] = x at c1 k1 j1 hle
                generalize l[k - 1] = y at c0 k0 hle
                have hk0i : (0 : Int) < (k : Int) := by omega
                have hkm : ((k : Int) - 1).toNat = k - 1 := by omega
                clear c1 c0 hin
                go_wp2_with fail
                refine wp_region_quiet_below (by kernel_rfl) (by kernel_rfl) ?_
                repeat (go_big_quiet_step (with_reducible exact j1 _ _))
                refine wpQuiet_nil ?_
                intro _ hw'
                obtain ⟨⟨dq, osq⟩, hw''⟩ := hw'
                subst hw''
                have BN : Hid (Below w.heap.size w (grow (redrawn wr dq) osq)) := (show Hid _ from pastO hb.out (below_regrown wr dq osq))
                generalize grow (redrawn wr dq) osq = wn at BN ⊢
                go_wp2
                go_ret
                exact ⟨congrArg (fun b => Ending.returned (.bool b)) HR.out.symm, BN.out⟩
              · have HS : Hid (∀ (i : Nat) (hi : i < l.length), i < k + 1 → stepOk l i hi) := (show ∀ _, _ from fun i hi h => by
                  by_cases e : i = k
                  · subst e
                    exact ⟨hin, fun h0 => by omega⟩
                  · exact hst.out i hi (by omega))
                generalize l[k] = x at c1 k1 j1 hle
                generalize l[k - 1] = y at c0 k0 hle
                have hk0i : (0 : Int) < (k : Int) := by omega
                have hkm : ((k : Int) - 1).toNat = k - 1 := by omega
                clear c1 c0 hin hst
                go_wp2_with fail
                refine wp_region_quiet_below (by kernel_rfl) (by kernel_rfl) ?_
                repeat (go_big_quiet_step (with_reducible exact j1 _ _))
                refine wpQuiet_nil ?_
                intro _ hw'
                obtain ⟨⟨dq, osq⟩, hw''⟩ := hw'
                subst hw''
                have BN : Hid (Below w.heap.size w (grow (redrawn wr dq) osq)) := (show Hid _ from pastO hb.out (below_regrown wr dq osq))
                generalize grow (redrawn wr dq) osq = wn at BN ⊢
                go_wp2
                go_roundw
                case rel => exact ⟨k + 1, by omega, by go_num, HS, BN⟩
                case measure => simp [intOf]; omega
            · have HS : Hid (∀ (i : Nat) (hi : i < l.length), i < k + 1 → stepOk l i hi) := (show ∀ _, _ from fun i hi h => by
                by_cases e : i = k
                · subst e
                  exact ⟨hin, fun h0 => absurd h0 hk0⟩
                · exact hst.out i hi (by omega))
              generalize l[k] = x at c1 k1 j1
              have hk0i : ¬ (0 : Int) < (k : Int) := by omega
              clear c1 hin hst
              go_wp2_with fail
              refine wp_region_quiet_below (by kernel_rfl) (by kernel_rfl) ?_
              repeat (go_big_quiet_step (with_reducible exact j1 _ _))
              refine wpQuiet_nil ?_
              intro _ hw'
              obtain ⟨⟨dq, osq⟩, hw''⟩ := hw'
              subst hw''
              have BN : Hid (Below w.heap.size w (grow (redrawn wr dq) osq)) := (show Hid _ from pastO hb.out (below_regrown wr dq osq))
              generalize grow (redrawn wr dq) osq = wn at BN ⊢
              go_wp2
              go_roundw
              case rel => exact ⟨k + 1, by omega, by go_num, HS, BN⟩
              case measure => simp [intOf]; omega
        · obtain rfl : k = l.length := by omega
          have HR : Hid (srvOk l = true) := srvOk_of hl1 hl9 (fun i hi => hst.out i hi hi)
          go_wp2
          go_ret
          exact ⟨congrArg (fun b => Ending.returned (.bool b)) HR.out.symm, hb.out⟩
    · have HR : Hid (srvOk l = false) := by
        cases e : srvOk l with
        | false => rfl
        | true => exact absurd (srvOk_iff.1 e).len hl9
      have e1 : ¬ (l.length : Int) < 1 := by omega
      have e2 : (9 : Int) < (l.length : Int) := by omega
      clear h3
      go_enter Tryd.func46, Tryd.ntmps46
      go_wp2
      go_ret
      exact ⟨congrArg (fun b => Ending.returned (.bool b)) HR.out.symm, Below.refl _ _⟩
  · have HR : Hid (srvOk l = false) := by
      cases e : srvOk l with
      | false => rfl
      | true => exact absurd (srvOk_iff.1 e).pos hl1
    have e1 : (l.length : Int) < 1 := by omega
    clear h3
    go_enter Tryd.func46, Tryd.ntmps46
    go_wp2
    go_ret
    exact ⟨congrArg (fun b => Ending.returned (.bool b)) HR.out.symm, Below.refl _ _⟩
theorem gon_next {l : List Int} {k : Nat} {g : Int} (h : k < l.length) : gon (l.take (k + 1)) g = gon (l.take k) g ++ (if l[k] = g then [] else [l[k]]) := by
  unfold gon
  rw [List.take_succ_eq_append_getElem h, List.filter_append]
  congr 1
  by_cases e : l[k] = g
  · rw [if_pos e, List.filter_cons_of_neg (by simpa using e)]; rfl
  · rw [if_neg e, List.filter_cons_of_pos (by simpa using e)]; rfl
theorem gon_len (l : List Int) (g : Int) : (gon l g).length ≤ l.length := List.length_filter_le _ _
set_option maxHeartbeats 1000000 in
theorem specGon (v : Value) (l : List Int) (z : Int) (w : World) (h : Sls intE w v l) (hl : l.length ≤ 1048576) :
    Calls Tryd.prog 48 #[v, .int .i64 z] w fun e w' => ∃ u, e = .returned u ∧ OwnsN w' w.heap.size u (gon l z) ∧ Below w.heap.size w w' := by
  obtain ⟨a, cap, rfl, h1, h2, h3⟩ := h.one
  have H2 : Hid (cap ≤ maxLen) := h2
  clear h h2
  go_enter Tryd.func48, Tryd.ntmps48
  go_wp2
  go_loopw [5, 6] (fun s i wr => ∃ (k : Nat) (sa : Option Addr) (sc : Nat), k ≤ l.length ∧ i = .int .i64 k ∧ s = .slice sa (gon (l.take k) z).length sc ∧ Hid (OwnsN wr w.heap.size (.slice sa (gon (l.take k) z).length sc) (gon (l.take k) z)) ∧ Hid (Below w.heap.size w wr)) (fun _ i _ => l.length - (intOf i).toNat)
  case atStart => exact ⟨0, _, _, Nat.zero_le _, rfl, rfl, (show Hid _ from OwnsE.born w), (show Hid _ from (Below.refl _ w).alloc (Nat.le_refl _) _)⟩
  case round =>
    obtain ⟨k, sa, sc, hk, rfl, rfl, ho, hb⟩ := hrel
    by_cases hlt : k < l.length
    · obtain ⟨g, q, rfl, hg, hc⟩ := h3 (by omega)
      have c0 := (hb.out.cell (p := ⟨g, q + k, none⟩) hg).trans (hc k hlt)
      have HN : Hid (gon (l.take (k + 1)) z = gon (l.take k) z ++ (if l[k] = z then [] else [l[k]])) := gon_next hlt
      have hpl := Nat.le_trans (gon_len (l.take k) z) (List.length_take_le _ _)
      generalize l[k] = x at c0 HN
      generalize gon (l.take k) z = S at ho HN hpl
      have hki : (k : Int) < (l.length : Int) := by omega
      clear hc h3
      by_cases hx : x = z
      · have e1 : (x != z) = false := by simp [hx]
        have HP : Hid (gon (l.take (k + 1)) z = S) := by show _ = _; rw [HN.out, if_pos hx, List.append_nil]
        clear hx HN
        go_wp2
        go_roundw
        case rel => exact ⟨k + 1, sa, sc, by omega, by go_num, by rw [HP.out], by rw [HP.out]; exact ho, hb⟩
        case measure => simp [intOf]; omega
      · have e1 : (x != z) = true := by simp [hx]
        have HP : Hid (gon (l.take (k + 1)) z = S ++ [x]) := by show _ = _; rw [HN.out, if_neg hx]
        clear hx HN
        go_wp2_with (at_builtin; refine wpList_pushN _ rfl (.tmp 20) (.tmp 25) rfl w.heap.size _ _ x rfl ho.out rfl (by omega) hb.out.size ?_; intro v4 w4 ho4 hg4; obtain ⟨a4, c4, hv4, _, _⟩ := ho4.form; subst hv4)
        go_roundw
        case rel => exact ⟨k + 1, a4, c4, by omega, by go_num, by rw [HP.out]; simp, by rw [HP.out]; exact ho4, (show Hid _ from belowE hb.out hg4 hb.out.size (OwnsE.from ho.out))⟩
        case measure => simp [intOf]; omega
    · obtain rfl : k = l.length := by omega
      rw [List.take_of_length_le (Nat.le_refl _)] at ho ⊢
      go_wp2
      go_ret
      exact ⟨_, rfl, ho.out, hb.out⟩
end Go.Proofs.YtdbeoloonoodkaaDoor
namespace Go.Proofs.YtdbeoloonoodkaaDoor
open Go.RowKit Go.Sort Rom
theorem cutN {w : World} {B g n cap k : Nat} {l : List Int} (h : OwnsN w B (.slice (some ⟨g, 0, Option.none⟩) n cap) l) (hn : n = l.length) (hk : k ≤ l.length) : ∃ A : Addr, (if cap = k then some (⟨g, 0, Option.none⟩ : Addr) else some ⟨g, k, Option.none⟩) = some A ∧ ∀ x : World, x.heap[g]? = w.heap[g]? → ∀ j u, (cellsE intE (l.drop k))[j]? = some u → x.cell? (A.add j) = some u := by
  subst hn
  obtain ⟨a, c, e, h1, _, _⟩ := h.form
  injection e with _ _ e3
  subst e3
  by_cases e : cap = k
  · refine ⟨⟨g, 0, Option.none⟩, by rw [if_pos e], fun x _ j u hu => ?_⟩
    rw [List.drop_of_length_le (by omega)] at hu
    simp [cellsE] at hu
  · refine ⟨⟨g, k, Option.none⟩, by rw [if_neg e], fun x hx j u hu => ?_⟩
    rw [cellsE_drop intE l k hk, List.getElem?_drop] at hu
    rw [show k * intE.k = k from Nat.mul_one k] at hu
    have k1 := World.ownsRow.cells h (g := g) rfl (k + j) u hu
    rw [addr_add] at k1 ⊢
    rw [Nat.zero_add] at k1
    rw [← k1]
    simp only [World.cell?]
    rw [hx]
end Go.Proofs.YtdbeoloonoodkaaDoor

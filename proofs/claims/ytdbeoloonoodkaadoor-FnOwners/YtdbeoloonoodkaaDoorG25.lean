/-
  The program's Hash.
  The program's servers.
-/
import Derived.Test.YtdbeoloonoodkaaDoorG10
import Derived.Test.YtdbeoloonoodkaaDoorG01
import Derived.WalkKit
import Derived.WalkSpells
import Derived.Test.YtdbeoloonoodkaaDoorG11
namespace Go.Proofs.YtdbeoloonoodkaaDoor
open Go.RowKit Go.Sort Ow
set_option linter.unusedVariables false
set_option linter.unusedSimpArgs false

set_option maxHeartbeats 400000 in
theorem implHsh (s : ByteArray) (w : World) (hs : s.size ≤ 2000000) :
    Calls Tryd.prog 22 #[.string s] w fun e w' => e = .returned (.int .i64 (hshL s.data.toList : Nat)) ∧ Below w.heap.size w w' := by
  have hlen : s.data.toList.length = s.size := by simp
  obtain ⟨cap, C, hconv, hrow⟩ := bytes_laid (P := Tryd.prog) w 9 22 5 s Tryd.underlying9 Tryd.underlying22 Tryd.underlying5
  have HR : Hid (RowIs (w.alloc (.cells C 5 (C.size, C.size + 1))) w.heap.size s.data.toList) := hrow
  clear hrow
  go_enter Tryd.func22, Tryd.ntmps22
  go_wp2
  go_loopw [3, 9] (fun h i wr => ∃ k : Nat, k ≤ s.size ∧ i = .int .i64 k ∧ h = .int .i64 (hshL (s.data.toList.take k) : Nat) ∧ Hid (Below w.heap.size w wr) ∧ Hid (RowIs wr w.heap.size s.data.toList)) (fun _ i _ => s.size - (intOf i).toNat)
  case atStart => exact ⟨0, Nat.zero_le _, rfl, rfl, (show Hid _ from ((Below.refl _ w).alloc (Nat.le_refl _) _).drew), HR.out⟩
  case round =>
    obtain ⟨k, hk, rfl, rfl, hb, hr⟩ := hrel
    clear hconv
    by_cases hlt : k < s.size
    · have hat := hr.out k (by omega)
      have e1 : s.data.toList[k]'(by omega) = s[k] := by simp; rfl
      rw [e1] at hat
      have hcell : wr.cell? ⟨w.heap.size, k, none⟩ = some (.int .u8 (s[k].toNat : Int)) := hat.1
      clear hat
      have hnx : Hid (hshL (s.data.toList.take (k + 1)) = hshN (hshL (s.data.toList.take k)) (s.data.toList[k]'(by omega))) := hshL_take s.data.toList k (by omega)
      have hlt9 := hshL_lt (s.data.toList.take k)
      generalize hshL (s.data.toList.take k) = h1 at hnx hlt9
      have hki : (k : Int) < (s.size : Int) := by omega
      go_wp2
      have hb8 : s[k].toNat < 256 := s[k].toNat_lt
      refine ⟨⟨k + 1, by omega, by go_num, ?_, hb, hr⟩, by simp [intOf]; omega⟩
      rw [hnx.out, e1, wrapI (s[k].toNat : Int) (by omega), wrapI ((h1 : Int) * 16777619 + (s[k].toNat : Int)) (by omega), wrapI _ (by omega), hsh_tmod]
    · obtain rfl : k = s.size := by omega
      rw [← hlen, List.take_of_length_le (Nat.le_refl _)]
      go_wp2
      go_ret
      exact ⟨rfl, hb.out⟩
end Go.Proofs.YtdbeoloonoodkaaDoor
namespace Go.Proofs.YtdbeoloonoodkaaDoor
open Go.RowKit Go.Sort Ow
set_option linter.unusedVariables false
set_option linter.unusedSimpArgs false

theorem implSrv (s : Int) (w : World) : Calls Tryd.prog 49 #[.int .i64 s] w fun e w' => e = .returned (.bool (inS s)) ∧ w = w' := by
  by_cases h0 : 0 ≤ s
  · have HR : Hid (decide (s ≤ 99) = inS s) := by show _ = _; unfold inS; simp [h0]
    go_enter Tryd.func49, Tryd.ntmps49
    go_wp2
    go_ret
    exact ⟨congrArg (fun b => Ending.returned (.bool b)) HR.out, rfl⟩
  · have HR : Hid (false = inS s) := by show _ = _; unfold inS; simp [h0]
    go_enter Tryd.func49, Tryd.ntmps49
    go_wp2
    go_ret
    exact ⟨congrArg (fun b => Ending.returned (.bool b)) HR.out, rfl⟩
set_option maxRecDepth 100000 in
set_option maxHeartbeats 1000000 in
theorem implSrvs (v : Value) (l : List Int) (w : World) (h : Sls intE w v l) :
    Calls Tryd.prog 35 #[v] w fun e w' => e = .returned (.bool (srvOk l)) ∧ w = w' := by
  obtain ⟨a, cap, rfl, h1, h2, h3⟩ := h.one
  have H2 : Hid (cap ≤ maxLen) := h2
  clear h h2
  by_cases hl1 : 1 ≤ l.length
  · by_cases hl9 : l.length ≤ 9
    · have e1 : ¬ (l.length : Int) < 1 := by omega
      have e2 : ¬ (9 : Int) < (l.length : Int) := by omega
      obtain ⟨g, o, rfl, hg, hc⟩ := h3 (by omega)
      have HC : Hid (∀ j (hj : j < l.length), w.cell? ⟨g, o + j, none⟩ = some (.int .i64 l[j])) := hc
      clear h3 hc
      go_enter Tryd.func35, Tryd.ntmps35
      go_wp2
      go_loopw [15] (fun i wr => ∃ k : Nat, k ≤ l.length ∧ i = .int .i64 k ∧ Hid (∀ (i : Nat) (hi : i < l.length), i < k → stepOk l i hi) ∧ w = wr) (fun i _ => l.length - (intOf i).toNat)
      case atStart => exact ⟨0, Nat.zero_le _, rfl, (show ∀ _, _ from fun i hi h => by omega), rfl⟩
      case round =>
        obtain ⟨k, hk, rfl, hst, rfl⟩ := hrel
        by_cases hlt : k < l.length
        · have c1 := HC.out k hlt
          have hki : (k : Int) < (l.length : Int) := by omega
          have j1 := fun W => implSrv l[k] W
          cases hin : inS l[k] with
          | false =>
            have HR : Hid (srvOk l = false) := srvOk_not k hlt (fun h => absurd (hin.symm.trans h.1) (by simp))
            rw [hin] at j1
            generalize l[k] = x at c1 j1
            clear hin
            go_wp2_with (go_at_call 49; refine (j1 _).mono ?_; rintro e w1 ⟨rfl, rfl⟩)
            go_ret
            exact ⟨congrArg (fun b => Ending.returned (.bool b)) HR.out.symm, rfl⟩
          | true =>
            rw [hin] at j1
            by_cases hk0 : 0 < k
            · have c0 := HC.out (k - 1) (by omega)
              have hk0i : (0 : Int) < (k : Int) := by omega
              have hkm : ((k : Int) - 1).toNat = k - 1 := by omega
              by_cases hle : l[k] ≤ l[k - 1]
              · have HR : Hid (srvOk l = false) := srvOk_not k hlt (fun h => by have := h.2 hk0; omega)
                generalize l[k] = x at c1 j1 hle
                generalize l[k - 1] = y at c0 hle
                clear hin
                go_wp2_with (go_at_call 49; refine (j1 _).mono ?_; rintro e w1 ⟨rfl, rfl⟩)
                go_ret
                exact ⟨congrArg (fun b => Ending.returned (.bool b)) HR.out.symm, rfl⟩
              · have HS : Hid (∀ (i : Nat) (hi : i < l.length), i < k + 1 → stepOk l i hi) := (show ∀ _, _ from fun i hi h => by
                  by_cases e : i = k
                  · subst e; exact ⟨hin, fun _ => by omega⟩
                  · exact hst.out i hi (by omega))
                clear hst
                generalize l[k] = x at c1 j1 hle
                generalize l[k - 1] = y at c0 hle
                clear hin
                go_wp2_with (go_at_call 49; refine (j1 _).mono ?_; rintro e w1 ⟨rfl, rfl⟩)
                exact ⟨⟨k + 1, by omega, by go_num, HS, trivial⟩, by simp [intOf]; omega⟩
            · have hk0i : ¬ (0 : Int) < (k : Int) := by omega
              have HS : Hid (∀ (i : Nat) (hi : i < l.length), i < k + 1 → stepOk l i hi) := (show ∀ _, _ from fun i hi h => by
                have e : i = k := by omega
                subst e
                exact ⟨hin, fun h => absurd h hk0⟩)
              clear hst
              generalize l[k] = x at c1 j1
              clear hin
              go_wp2_with (go_at_call 49; refine (j1 _).mono ?_; rintro e w1 ⟨rfl, rfl⟩)
              exact ⟨⟨k + 1, by omega, by go_num, HS, trivial⟩, by simp [intOf]; omega⟩
        · have HR : Hid (srvOk l = true) := srvOk_of hl1 hl9 (fun i hi => hst.out i hi (by omega))
          have hki : ¬ (k : Int) < (l.length : Int) := by omega
          clear hst
          go_wp2
          go_ret
          exact ⟨congrArg (fun b => Ending.returned (.bool b)) HR.out.symm, rfl⟩
    · have HR : Hid (srvOk l = false) := by
        show _ = _
        cases e : srvOk l with
        | false => rfl
        | true => exact absurd (srvOk_iff.1 e).len hl9
      have e1 : ¬ (l.length : Int) < 1 := by omega
      have e2 : (9 : Int) < (l.length : Int) := by omega
      clear h3
      go_enter Tryd.func35, Tryd.ntmps35
      go_wp2
      go_ret
      exact ⟨congrArg (fun b => Ending.returned (.bool b)) HR.out.symm, rfl⟩
  · have HR : Hid (srvOk l = false) := by
      show _ = _
      cases e : srvOk l with
      | false => rfl
      | true => exact absurd (srvOk_iff.1 e).pos hl1
    have e1 : (l.length : Int) < 1 := by omega
    clear h3
    go_enter Tryd.func35, Tryd.ntmps35
    go_wp2
    go_ret
    exact ⟨congrArg (fun b => Ending.returned (.bool b)) HR.out.symm, rfl⟩
end Go.Proofs.YtdbeoloonoodkaaDoor

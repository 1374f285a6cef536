/-
  The specification's ShowControl by its contract.
-/
import Derived.Test.YtccnkmffadmfhaaGreatDoorCtlF
namespace Go.Proofs.YtccnkmffadmfhaaGreatDoor
open Go.ChangeShapes Go.WideShapes Go.ChangeAt Go.RowKit Go.Joins Go.Deep Go.Sort
set_option linter.unusedVariables false
set_option linter.unusedSimpArgs false

theorem Tryz.infoT9 : (Tryz.prog.info? 9).map (fun i => (i.zero, i.size, i.bytes)) = some (some (.string ⟨#[]⟩), 1, 16) := by kernel_rfl
abbrev OwnsT9 := OwnsE txtE 9
set_option maxHeartbeats 4000000 in
theorem specShC (c : Ct) (w : World) :
    Calls Tryz.prog 11 #[ctV c] w fun e w' => e = .returned (.string (shC c)) ∧ Below w.heap.size w w' := by
  have hk := fun W => specCok c W
  have hyes : ctB c = true → shC c = joinC (prtC c) := fun h => by unfold shC; rw [if_pos h]
  have hno : ctB c = false → shC c = ⟨#[]⟩ := fun h => by unfold shC; rw [h]; rfl
  have C0 : Hid (CtB (w.alloc (.cells #[.int .i64 c.a, .int .i64 c.s, .int .i64 c.t, .bool c.ns, .bool c.nc, .bool c.pr, .bool c.mu] 25)) w.heap.size c) := CtB.born w c 25
  have B0 : Hid (Below w.heap.size w (w.alloc (.cells #[.int .i64 c.a, .int .i64 c.s, .int .i64 c.t, .bool c.ns, .bool c.nc, .bool c.pr, .bool c.mu] 25))) := (Below.refl _ w).alloc (by simp <;> omega) _
  generalize shC c = T at hyes hno ⊢
  have hsize := @prt_size c
  have hpair := prt_two c
  cases hb : ctB c with
  | false =>
    have HR : Hid (T = ⟨#[]⟩) := hno hb
    rw [hb] at hk
    clear hyes hno hsize hpair hb
    unfold ctV at hk ⊢
    go_enter Tryz.func11, Tryz.ntmps11
    go_wp2_with fail
    refine (hk _).mono ?_
    rintro e w1 ⟨rfl, hb1⟩
    have B1 : Hid (Below w.heap.size w w1) := past9 B0.out hb1
    clear hb1 B0 C0 hk
    go_wp2
    go_ret
    exact ⟨by rw [HR.out]; rfl, B1.out⟩
  | true =>
    obtain ⟨ra, rs, rt⟩ := ctB_iff.1 hb
    have HN : Hid (∀ j (hj : j < (NL c).length), (NL c)[j].2 ≤ 1000000000 ∧ (NL c)[j].1.size ≤ 10) := fun j hj => by
      unfold NL at hj ⊢
      simp at hj
      rcases (show j = 0 ∨ j = 1 ∨ j = 2 by omega) with rfl | rfl | rfl
      · exact ⟨(secB_iff.1 ra).2, show nmA.size ≤ 10 by decide⟩
      · exact ⟨(secB_iff.1 rs).2, show nmS.size ≤ 10 by decide⟩
      · exact ⟨(secB_iff.1 rt).2, show nmT.size ≤ 10 by decide⟩
    have HR : Hid (T = joinC (prtC c)) := hyes hb
    have HZ : Hid (∀ p ∈ prtC c, p.size ≤ 29) := hsize hb
    have HP : Hid (prtC c = outN (NL c) ++ outF (FL c)) := hpair
    rw [hb] at hk
    clear hyes hno hsize hpair hb ra rs rt
    unfold ctV at hk ⊢
    go_enter Tryz.func11, Tryz.ntmps11
    go_wp2_with fail
    refine (hk _).mono ?_
    rintro e w1 ⟨rfl, hb1⟩
    have B1 : Hid (Below w.heap.size w w1) := past9 B0.out hb1
    have C1 : Hid (CtB w1 w.heap.size c) := C0.out.kept hb1
    have s1 : w.heap.size < w1.heap.size := C1.out.hi
    clear hb1 B0 C0 hk
    obtain ⟨x0, x1, x2, x3, x4, x5, x6⟩ := C1.out.all
    have TB : Hid (TabB (((w1.alloc (.cells #[] 9)).alloc (.cells #[.string ⟨#[109, 97, 120, 45, 97, 103, 101, 61]⟩, .string ⟨#[115, 45, 109, 97, 120, 97, 103, 101, 61]⟩, .string ⟨#[109, 97, 120, 45, 115, 116, 97, 108, 101, 61]⟩] 9)).alloc (.cells #[.int .i64 c.a, .int .i64 c.s, .int .i64 c.t] 2)) (w1.heap.size + 1) (fun n => .int .i64 n) (NL c)) := by
      have := TabB.born (w1.alloc (.cells #[] 9)) (fun n => Value.int .i64 n) (NL c) #[.string ⟨#[109, 97, 120, 45, 97, 103, 101, 61]⟩, .string ⟨#[115, 45, 109, 97, 120, 97, 103, 101, 61]⟩, .string ⟨#[109, 97, 120, 45, 115, 116, 97, 108, 101, 61]⟩] #[.int .i64 c.a, .int .i64 c.s, .int .i64 c.t] 9 2 rfl rfl
      simp only [World.size_alloc] at this
      exact this
    have hNl : (NL c).length = 3 := rfl
    have hFl : (FL c).length = 4 := rfl
    have HON : Hid (outN ((NL c).take 3) = outN (NL c)) := rfl
    have HOF : Hid (outF ((FL c).take 4) = outF (FL c)) := rfl
    have HF : Hid (∀ (W : World), CtB W w.heap.size c → TabB ((W.alloc (.cells #[.string ⟨#[110, 111, 45, 115, 116, 111, 114, 101]⟩, .string ⟨#[110, 111, 45, 99, 97, 99, 104, 101]⟩, .string ⟨#[112, 114, 105, 118, 97, 116, 101]⟩, .string ⟨#[109, 117, 115, 116, 45, 114, 101, 118, 97, 108, 105, 100, 97, 116, 101]⟩] 9)).alloc (.cells #[.bool c.ns, .bool c.nc, .bool c.pr, .bool c.mu] 4)) W.heap.size (fun b => .bool b) (FL c)) := fun W _ => TabB.born W (fun b => Value.bool b) (FL c) _ _ 9 4 rfl rfl
    have hn2 := fun k => outN_len ((NL c).take k)
    have hf2 := fun k => outF_len ((FL c).take k)
    simp only [List.length_take] at hn2 hf2
    rw [hNl] at hn2
    rw [hFl] at hf2
    generalize hNN : NL c = N at HN HP TB hNl HON hn2
    generalize hFF : FL c = F at HP HF hFl HOF hf2
    generalize prtC c = PP at HR HZ HP
    go_wp2
    go_loopw [3, 6] (fun u i wr => ∃ (k : Nat) (out : List ByteArray), k ≤ 3 ∧ i = .int .i64 k ∧ Hid (outN (N.take k) = out) ∧ out.length ≤ k ∧ Hid (OwnsT9 wr w1.heap.size u out) ∧ (∃ gg cc, u = .slice (some ⟨gg, 0, Option.none⟩) out.length cc ∧ w1.heap.size ≤ gg ∧ gg < wr.heap.size ∧ gg ≠ w1.heap.size + 1 ∧ gg ≠ w1.heap.size + 1 + 1) ∧ Hid (TabB wr (w1.heap.size + 1) (fun n => .int .i64 n) N) ∧ Hid (CtB wr w.heap.size c) ∧ Hid (Below w.heap.size w wr)) (fun _ i _ => 3 - (intOf i).toNat)
    case atStart =>
      refine ⟨0, [], Nat.zero_le _, rfl, rfl, Nat.le_refl _, ((OwnsE.born w1).alloc _).alloc _, ⟨w1.heap.size, 0, rfl, Nat.le_refl _, by simp only [World.size_alloc]; omega, by omega, by omega⟩, TB, ((C1.out.alloc _).alloc _).alloc _, ?_⟩
      have b1 := B1.out.alloc B1.out.size (.cells #[] 9)
      have b2 := b1.alloc b1.size (.cells #[.string ⟨#[109, 97, 120, 45, 97, 103, 101, 61]⟩, .string ⟨#[115, 45, 109, 97, 120, 97, 103, 101, 61]⟩, .string ⟨#[109, 97, 120, 45, 115, 116, 97, 108, 101, 61]⟩] 9)
      exact b2.alloc b2.size _
    case round =>
      obtain ⟨k, out, hk, rfl, hout, hol, ho, ⟨gg, cc, rfl, hg1, hg2, hg3, hg4⟩, ht, hc, hbw⟩ := hrel
      by_cases hlt : k < 3
      · have hkN : k < N.length := by rw [hNl]; exact hlt
        have c1 := ht.out.at1 k hkN
        have c2 := ht.out.at2 k hkN
        have hst := outN_step N k hkN
        obtain ⟨hq1, hq2⟩ := HN.out k hkN
        have hi1 := ht.out.hi
        generalize N[k].1 = nm at c1 hst hq2
        generalize N[k].2 = n at c2 hst hq1
        rw [hout.out] at hst
        by_cases hn0 : 0 ≤ n
        · obtain ⟨m, rfl⟩ := Int.eq_ofNat_of_zero_le hn0
          have hst2 : Hid (outN (N.take (k + 1)) = out ++ [nm ++ itoS m]) := by
            show _ = _
            rw [hst]; unfold numP; rw [if_pos hn0]; rfl
          have hint := fun W => specIntZ m W (by omega)
          have hms := itoS_size (n := m) (by omega)
          have hmx : (nm ++ itoS m).size ≤ 29 := by rw [ByteArray.size_append]; omega
          have hsz2 : (nm ++ itoS m).size = nm.size + (itoS m).size := ByteArray.size_append
          clear hst
          go_wp2
          refine region_makes (fun W => Below wr.heap.size wr W) 11 (by kernel_rfl) (by kernel_rfl) (by kernel_rfl) _ rfl rfl (Below.refl _ _) ⟨?A, ?q, ?m⟩
          case q =>
            intro W hW
            have e1 := cell_regrown ((hW.cell (p := ⟨w1.heap.size + 1, k, Option.none⟩) (by show w1.heap.size + 1 < _; omega)).trans c1)
            have e2 := cell_regrown ((hW.cell (p := ⟨w1.heap.size + 1 + 1, k, Option.none⟩) (by show w1.heap.size + 1 + 1 < _; omega)).trans c2)
            have j1 : ∀ d os, Calls Tryz.prog 30 #[.int .i64 (m : Int)] (grow (redrawn W d) os) fun e w'' => e = .returned (.string (itoS m)) ∧ ∃ p : Regrown, w'' = grow (redrawn W p.d) p.os := fun d os => Calls.regrown_of (hint _)
            simp only [List.take_succ_cons, List.take_zero]
            repeat (go_big_quiet_step (with_reducible exact j1 _ _))
            refine wpQuiet_nil ?_
            exact rfl
          intro u hu
          have hbu := regr_below hu
          refine ⟨.slice (some ⟨u.heap.size, 0, Option.none⟩) 1 1, u.alloc (.cells #[.string (nm ++ itoS m)] 9), by go_simp, hbu.alloc hbu.size _, fun u3 hu3 => ?_⟩
          have hb3 := regr_below hu3
          have hbw3 : Below wr.heap.size wr u3 := past9 (hbu.alloc hbu.size _) hb3
          have O3 := ho.out.kept hbw3
          have T3 := ht.out.kept hbw3
          have C3 := hc.out.kept hbw3
          have B3 := past9 hbw.out hbw3
          have hz3 := hbw3.size
          have f3 : ∀ j v, (cellsE txtE [nm ++ itoS m])[j]? = some v → u3.cell? ((⟨u.heap.size, 0, Option.none⟩ : Addr).add j) = some v := fun j v hv => by
            have h1 := fresh_cell (E := txtE) u (nm ++ itoS m) #[.string (nm ++ itoS m)] 9 rfl j v hv
            rw [addr_add] at h1 ⊢
            exact (hb3.cell (p := ⟨u.heap.size, 0 + j, Option.none⟩) (by simp)).trans h1
          simp only [List.drop_succ_cons, List.drop_zero]
          refine wpList_rowE_at (E := txtE) _ rfl (.tmp 33) (.tmp 44) 34 9 (.string ⟨#[]⟩) 16 Tryz.underlying34 Tryz.infoT9 rfl rfl w1.heap.size (.slice (some ⟨gg, 0, Option.none⟩) out.length cc) out (by simp [Act.eval, Act.put]) O3 ⟨u.heap.size, 0, Option.none⟩ 1 [nm ++ itoS m] (by simp [Act.eval, Act.put]) f3 (by simp only [List.length_singleton]; unfold maxLen; omega) (by simp only [List.length_singleton]; omega) (by omega) ?_
          intro v7 w7 ho7 hg7 hn7 hat7
          obtain ⟨g7, c7, rfl, hgo, hgl, hgu⟩ := ho7.moved (by simp) hat7
          have T7 : Hid (TabB w7 (w1.heap.size + 1) (fun n => .int .i64 n) N) := T3.grown hg7 hg3 hg4
          have C7 : Hid (CtB w7 w.heap.size c) := C3.same (hg7.block _ (by omega) (fun e => by simp [Value.ownBlock] at e; omega)) hg7.size
          have B7 : Hid (Below w.heap.size w w7) := belowE B3 hg7 B3.size (fun q hq => by simp [Value.ownBlock] at hq; omega)
          have hlen7 : (out ++ [nm ++ itoS m]).length = out.length + 1 := by simp
          have O7 : Hid (OwnsT9 w7 w1.heap.size (.slice (some ⟨g7, 0, Option.none⟩) (out.length + 1) c7) (out ++ [nm ++ itoS m])) := by
            rw [hlen7] at ho7
            exact ho7
          rw [hlen7]
          have hne7 : g7 ≠ w1.heap.size + 1 ∧ g7 ≠ w1.heap.size + 1 + 1 := by rcases hgo with rfl | rfl <;> omega
          clear hu hbu hu3 hb3 hbw3 O3 T3 C3 B3 f3 ho7 hg7 hn7 hat7 hgo ho ht hc hbw c1 c2 hint hms
          go_wp2
          go_roundw
          case rel => exact ⟨k + 1, _, by omega, by go_num, hst2, by omega, O7, ⟨g7, c7, by rw [hlen7], hgl, hgu, hne7.1, hne7.2⟩, T7, C7, B7⟩
          case measure => simp [intOf]; omega
        · have hst2 : Hid (outN (N.take (k + 1)) = out) := by
            show _ = _
            rw [hst]; unfold numP; rw [if_neg hn0]; simp
          clear hst
          go_wp2
          go_roundw
          case rel => exact ⟨k + 1, _, by omega, by go_num, hst2, by omega, ho, ⟨gg, cc, rfl, hg1, hg2, hg3, hg4⟩, ht, hc, hbw⟩
          case measure => simp [intOf]; omega
      · have hk3 : k = 3 := by omega
        obtain ⟨wo, rfl⟩ : ∃ wo, wo = wr := ⟨_, rfl⟩
        have HO : Hid (outN N = out) := by
          show _ = _
          rw [← HON.out, ← hk3]; exact hout.out
        have TF := HF.out wo hc.out
        have HT : Hid _ := TF
        obtain ⟨y0, y1, y2, y3, y4, y5, y6⟩ := hc.out.all
        have hcw := hc.out.hi
        have hol3 : out.length ≤ 3 := by omega
        clear hout ht HF hc TF HN hk3 hol
        go_wp2
        go_loopw [3, 9] (fun u i wq => ∃ (k : Nat) (out2 : List ByteArray), k ≤ 4 ∧ i = .int .i64 k ∧ Hid (out ++ outF (F.take k) = out2) ∧ out2.length ≤ 3 + k ∧ Hid (OwnsT9 wq w1.heap.size u out2) ∧ (∃ g2 c2, u = .slice (some ⟨g2, 0, Option.none⟩) out2.length c2 ∧ w1.heap.size ≤ g2 ∧ g2 < wq.heap.size ∧ g2 ≠ wo.heap.size ∧ g2 ≠ wo.heap.size + 1) ∧ Hid (TabB wq wo.heap.size (fun b => .bool b) F) ∧ Hid (Below w.heap.size w wq)) (fun _ i _ => 4 - (intOf i).toNat)
        case atStart =>
          refine ⟨0, out, Nat.zero_le _, rfl, by show _ = _; simp [outF], by omega, (ho.out.alloc _).alloc _, ⟨gg, cc, rfl, hg1, by simp only [World.size_alloc]; omega, by omega, by omega⟩, HT, ?_⟩
          have b2 := hbw.out.alloc hbw.out.size (.cells #[.string ⟨#[110, 111, 45, 115, 116, 111, 114, 101]⟩, .string ⟨#[110, 111, 45, 99, 97, 99, 104, 101]⟩, .string ⟨#[112, 114, 105, 118, 97, 116, 101]⟩, .string ⟨#[109, 117, 115, 116, 45, 114, 101, 118, 97, 108, 105, 100, 97, 116, 101]⟩] 9)
          exact b2.alloc b2.size _
        case round =>
          obtain ⟨k, out2, hk, rfl, hout, hol2, ho2, ⟨g2, c2, rfl, hq1, hq2, hq3, hq4⟩, ht, hbq⟩ := hrel
          obtain ⟨wq, rfl⟩ : ∃ wq, wq = wr := ⟨_, rfl⟩
          by_cases hlt2 : k < 4
          · have hkF : k < F.length := by rw [hFl]; exact hlt2
            have c1 := ht.out.at1 k hkF
            have c2' := ht.out.at2 k hkF
            have hst := outF_step F k hkF
            have hi1 := ht.out.hi
            generalize F[k].1 = nm at c1 hst
            generalize F[k].2 = b at c2' hst
            cases b with
            | false =>
              have hst2 : Hid (out ++ outF (F.take (k + 1)) = out2) := by
                show _ = _
                rw [hst, ← hout.out]; simp [flgP]
              clear hst
              go_wp2
              go_roundw
              case rel => exact ⟨k + 1, _, by omega, by go_num, hst2, by omega, ho2, ⟨g2, c2, rfl, hq1, hq2, hq3, hq4⟩, ht, hbq⟩
              case measure => simp [intOf]; omega
            | true =>
              have hst2 : Hid (out ++ outF (F.take (k + 1)) = out2 ++ [nm]) := by
                show _ = _
                rw [hst, ← hout.out]; simp [flgP]
              clear hst
              go_wp2_with (at_builtin; refine wpList_rowE_at (E := txtE) _ rfl (.tmp 64) (.tmp 69) 34 9 (.string ⟨#[]⟩) 16 Tryz.underlying34 Tryz.infoT9 rfl rfl w1.heap.size (.slice (some ⟨g2, 0, Option.none⟩) out2.length c2) out2 (by simp [Act.eval, Act.put]) (ho2.out.alloc _) ⟨wq.heap.size, 0, Option.none⟩ 1 [nm] (by simp [Act.eval, Act.put]) (fresh_cell (E := txtE) wq nm #[.string nm] 9 rfl) (by simp only [List.length_singleton]; unfold maxLen; omega) (by simp only [List.length_singleton]; omega) (by simp only [World.size_alloc]; omega) ?_; intro v7 w7 ho7 hg7 hn7 hat7)
              obtain ⟨g7, c7, rfl, hgo, hgl, hgu⟩ := ho7.moved (by simp) hat7
              have T7 : Hid (TabB w7 wo.heap.size (fun b => .bool b) F) := (ht.out.kept ((Below.refl _ wq).alloc (Nat.le_refl _) _)).grown hg7 hq3 hq4
              have B7 : Hid (Below w.heap.size w w7) := belowE (hbq.out.alloc hbq.out.size _) hg7 (by have := hbq.out.size; simp only [World.size_alloc]; omega) (fun q hq => by simp [Value.ownBlock] at hq; omega)
              have hlen7 : (out2 ++ [nm]).length = out2.length + 1 := by simp
              have O7 : Hid (OwnsT9 w7 w1.heap.size (.slice (some ⟨g7, 0, Option.none⟩) (out2.length + 1) c7) (out2 ++ [nm])) := by
                rw [hlen7] at ho7
                exact ho7
              rw [hlen7]
              have hne7 : g7 ≠ wo.heap.size ∧ g7 ≠ wo.heap.size + 1 := by
                rcases hgo with rfl | rfl
                · exact ⟨hq3, hq4⟩
                · simp only [World.size_alloc]; omega
              clear ho7 hg7 hn7 hat7 hgo ho2 ht hbq c1 c2'
              go_wp2
              go_roundw
              case rel =>
                exact ⟨k + 1, _, by omega, by go_num, hst2, by omega, O7, ⟨g7, c7, by rw [hlen7], hgl, hgu, hne7.1, hne7.2⟩, T7, B7⟩
              case measure => simp [intOf]; omega
          · have hk4 : k = 4 := by omega
            have hPO : PP = out2 := by rw [HP.out, HO.out, ← hout.out, hk4, HOF.out]
            subst hPO
            have hle : PP.length ≤ 7 := by omega
            clear hout HO HOF HON HP ho ht HT hk4 hol2
            go_wp2
            go_loopw [10, 11] (fun a i wz => ∃ (k : Nat) (s : ByteArray), wz = wq ∧ k ≤ PP.length ∧ i = .int .i64 k ∧ a = .string s ∧ Hid (joinC (PP.take k) = s) ∧ s.size ≤ 31 * k) (fun _ i _ => PP.length - (intOf i).toNat)
            case atStart => exact ⟨0, ⟨#[]⟩, rfl, Nat.zero_le _, rfl, rfl, rfl, by decide⟩
            case round =>
              obtain ⟨k, s, rfl, hk, rfl, rfl, hs, hss⟩ := hrel
              by_cases hlt3 : k < PP.length
              · have ce : wr.cell? ⟨g2, k, Option.none⟩ = some (.string PP[k]) := by
                  have h := ho2.out.at (j := k) (i := 0) hlt3 (u := .string PP[k]) rfl
                  rw [show k * txtE.k + 0 = k from by show k * 1 + 0 = k; omega] at h
                  exact h
                have hz := HZ.out PP[k] (List.getElem_mem hlt3)
                have hss2 : (s ++ ⟨#[44, 32]⟩ : ByteArray).size = s.size + 2 := by rw [ByteArray.size_append]; rfl
                generalize hX : PP[k] = t at ce hz
                by_cases hk0 : k = 0
                · subst hk0
                  have hse : s = ⟨#[]⟩ := hs.out.symm
                  subst hse
                  have HJ : Hid (joinC (PP.take (0 + 1)) = (⟨#[]⟩ : ByteArray) ++ t) := by
                    show _ = _
                    rw [joinC_first PP hlt3, hX]
                    cases t
                    simp [ByteArray.ext_iff]
                  have hjs : ((⟨#[]⟩ : ByteArray) ++ t).size = t.size := by rw [ByteArray.size_append]; show 0 + _ = _; omega
                  go_wp2
                  go_roundw
                  case rel => exact ⟨0 + 1, _, trivial, by omega, by go_num, rfl, HJ, by omega⟩
                  case measure => simp [intOf]; omega
                · have HJ : Hid (joinC (PP.take (k + 1)) = s ++ (⟨#[44, 32]⟩ : ByteArray) ++ t) := by
                    show _ = _
                    rw [joinC_step PP k hlt3 (by omega), hX, hs.out]
                    rfl
                  have hjs : (s ++ (⟨#[44, 32]⟩ : ByteArray) ++ t).size = s.size + 2 + t.size := by rw [ByteArray.size_append, hss2]
                  go_wp2
                  go_roundw
                  case rel => exact ⟨k + 1, _, trivial, by omega, by go_num, rfl, HJ, by omega⟩
                  case measure => simp [intOf]; omega
              · have hkl : k = PP.length := by omega
                subst hkl
                have HE : Hid (s = T) := by
                  show _ = _
                  rw [HR.out, ← hs.out, List.take_length]
                go_wp2
                go_ret
                exact ⟨ret_str8 HE.out, hbq.out⟩
end Go.Proofs.YtccnkmffadmfhaaGreatDoor

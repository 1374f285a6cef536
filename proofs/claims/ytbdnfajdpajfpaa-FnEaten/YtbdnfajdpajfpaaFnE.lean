/-
  Bytes that are eaten one by one are eaten as all at once: the walk of the law.
-/
import Derived.Test.YtbdnfajdpajfpaaDrD
import Derived.Test.YtbdnfajdpajfpaaDrE
import Derived.Test.YtbdnfajdpajfpaaChkQ
import Derived.Test.YtbdnfajdpajfpaaChkR
import Derived.Test.YtbdnfajdpajfpaaChkS
import Derived.Lib.QuietBelow
import Derived.Laws.StructEq
namespace Go.Proofs.Ytbdnfajdpajfpaa
open Go.RowKit Go.Sort
set_option linter.unusedVariables false

theorem small_all (c : Ck) (l : List UInt8) : Small (allC c l) := by
  by_cases h : okC c = true
  · rw [allC_yes h]
    obtain ⟨_, ⟨b1, _⟩, d1, e1, _⟩ := ok_fin (okC_is h) l
    exact ⟨by omega, by omega⟩
  · rw [allC_no (by simpa using h)]
    exact ⟨Nat.zero_le _, Nat.zero_le _⟩
theorem small_ok {c : Ck} (h : okC c = true) : Small c := by
  obtain ⟨_, ⟨b1, _⟩, d1, e1, _⟩ := okC_is h
  exact ⟨by omega, by omega⟩
theorem fin_next {t : ByteArray} {k : Nat} (d : Ck) (h : k < t.size) : fin d (t.data.toList.take (k + 1)) = fin (fin d (t.data.toList.take k)) [t[k]] := by
  have hk : k < t.data.toList.length := by simpa using h
  rw [← fin_app, List.take_succ_eq_append_getElem hk]
  rfl
theorem Four.next {w w' : World} {b : Nat} {c : Ck} (h : Four w b c) (hb : Below w.heap.size w w') : Four w' b c := h.kept hb h.hi
theorem past5 {w w1 w2 : World} (h : Below w.heap.size w w1) (hb : Below w1.heap.size w1 w2) : Below w.heap.size w w2 := h.trans (hb.mono h.size)
theorem pastA5 {w w1 w2 : World} {o : Obj} (h : Below w.heap.size w w1) (hb : Below (w1.alloc o).heap.size (w1.alloc o) w2) : Below w.heap.size w w2 := past5 (h.alloc h.size o) hb

set_option maxHeartbeats 8000000 in
theorem eaten (sa : Option Addr) (sl sc : Nat) (zs : List Int) (w : World) (hw : IsRow w sa sl sc zs) :
    Calls Try.prog 3 #[.slice sa sl sc] w fun e w' => e = .returned (.bool true) ∧ Below w.heap.size w w' := by
  by_cases hbig : 4096 < sl
  · have hlen := hw.len
    clear hw
    go_enter Try.func3, Try.ntmps3
    go_wp2_with (go_at_call 8; refine (isBig sa sl sc _ hbig hlen).mono ?_; rintro e w1 ⟨rfl, rfl⟩)
    go_ret
    exact ⟨rfl, Below.refl _ _⟩
  · have hl : sl ≤ 4096 := by omega
    have h8 : Hid (Code8 w w.heap.size sa sl) := hw.code.code
    clear hw hbig
    go_enter Try.func3, Try.ntmps3
    go_wp2_with fail
    refine (notBig sa sl sc _ hl).mono ?_
    rintro e w0 ⟨rfl, rfl⟩
    go_wp2_with fail
    refine (drawEat sa sl sc _ h8.out hl).mono ?_
    rintro e w1 ⟨⟨c, x, rfl, hsm⟩, hb1⟩
    have B1 : Hid (Below w.heap.size w w1) := hb1
    have hi : Hid (∀ w, Calls Try.prog 10 #[ckV c, .int .u8 (x.toNat : Int)] w fun e w' => e = .returned (ckV (allC c [x])) ∧ Below w.heap.size w w') := fun w => implEat c x w (by have := hsm.1; omega) (by have := hsm.2; omega)
    have hs : Hid (∀ w, Calls Try.prog 11 #[ckV c, .int .u8 (x.toNat : Int)] w fun e w' => e = .returned (ckV (allC c [x])) ∧ Below w.heap.size w w') := fun w => specEat c x w (by have := hsm.1; omega) (by have := hsm.2; omega)
    have ki : Hid (∀ w, Calls Try.prog 12 #[ckV c] w fun e w' => e = .returned (.bool (okC c)) ∧ Below w.heap.size w w') := fun w => implOk c w (by have := hsm.1; omega) (by have := hsm.2; omega)
    have ks : Hid (∀ w, Calls Try.prog 13 #[ckV c] w fun e w' => e = .returned (.bool (okC c)) ∧ Below w.heap.size w w') := fun w => specOk5 c w (by have := hsm.2; omega) (by have := hsm.1; omega)
    have hE : Hid (Small (allC c [x])) := small_all c [x]
    have hEy : Hid (okC c = true → okC (allC c [x]) = true) := fun h => by rw [allC_yes h]; exact okC_yes (ok_fin (okC_is h) _)
    have hEn : Hid (okC c = false → allC c [x] = zeroC) := fun h => allC_no h _
    generalize allC c [x] = e at hi hs hE hEy hEn
    unfold ckV at hi hs ki ks ⊢
    clear hb1
    go_wp2_with fail
    refine (hi.out _).mono ?_
    rintro e' w2 ⟨rfl, hb2⟩
    have C2 : Hid (Four w2 w1.heap.size c) := (Four.new w1 c).next hb2
    have B2 : Hid (Below w.heap.size w w2) := pastA5 B1.out hb2
    clear hi hb2 B1
    have C3 : Hid (Four (w2.alloc (.cells #[.int .i64 e.st, .int .i64 e.lf, .string e.dg, .string e.bd] 25)) w1.heap.size c) := C2.out.alloc _
    have X3 : Hid (Four (w2.alloc (.cells #[.int .i64 e.st, .int .i64 e.lf, .string e.dg, .string e.bd] 25)) w2.heap.size e) := Four.new w2 e
    have B3 : Hid (Below w.heap.size w (w2.alloc (.cells #[.int .i64 e.st, .int .i64 e.lf, .string e.dg, .string e.bd] 25))) := B2.out.alloc B2.out.size _
    clear C2 B2
    go_wp2
    generalize w2.alloc (.cells #[.int .i64 e.st, .int .i64 e.lf, .string e.dg, .string e.bd] 25) = w3 at C3 X3 B3 ⊢
    have k0 := cell_regrown C3.out.c0
    have k1 := cell_regrown C3.out.c1
    have k2 := cell_regrown C3.out.c2
    have k3 := cell_regrown C3.out.c3
    have m0 := cell_regrown X3.out.c0
    have m1 := cell_regrown X3.out.c1
    have m2 := cell_regrown X3.out.c2
    have m3 := cell_regrown X3.out.c3
    have cS : ∀ d os, Calls Try.prog 11 #[.agg #[.int .i64 c.st, .int .i64 c.lf, .string c.dg, .string c.bd], .int .u8 (x.toNat : Int)] (grow (redrawn w3 d) os) fun e' w'' => e' = .returned (.agg #[.int .i64 e.st, .int .i64 e.lf, .string e.dg, .string e.bd]) ∧ ∃ p : Regrown, w'' = grow (redrawn w3 p.d) p.os := fun d os => Calls.regrown_of (hs.out _)
    have cI : ∀ d os, Calls Try.prog 12 #[.agg #[.int .i64 c.st, .int .i64 c.lf, .string c.dg, .string c.bd]] (grow (redrawn w3 d) os) fun e' w'' => e' = .returned (.bool (okC c)) ∧ ∃ p : Regrown, w'' = grow (redrawn w3 p.d) p.os := fun d os => Calls.regrown_of (ki.out _)
    have cK : ∀ d os, Calls Try.prog 13 #[.agg #[.int .i64 c.st, .int .i64 c.lf, .string c.dg, .string c.bd]] (grow (redrawn w3 d) os) fun e' w'' => e' = .returned (.bool (okC c)) ∧ ∃ p : Regrown, w'' = grow (redrawn w3 p.d) p.os := fun d os => Calls.regrown_of (ks.out _)
    refine wp_region_quiet_below (by kernel_rfl) (by kernel_rfl) ?_
    repeat (quiet_step (first | exact cS _ _ | exact cI _ _ | exact cK _ _))
    refine wpQuiet_nil ?_
    intro _ hw'
    obtain ⟨⟨dq, osq⟩, hw''⟩ := hw'
    subst hw''
    have hb4 := below_regrown w3 dq osq
    generalize grow (redrawn w3 dq) osq = w4 at hb4 ⊢
    have C4 : Hid (Four w4 w1.heap.size c) := C3.out.next hb4
    have X4 : Hid (Four w4 w2.heap.size e) := X3.out.next hb4
    have B4 : Hid (Below w.heap.size w w4) := past5 B3.out hb4
    have c8 : Hid (Code8 w4 w4.heap.size sa sl) := (h8.out.kept B4.out (Nat.le_refl _)).up B4.out.size
    clear k0 k1 k2 k3 m0 m1 m2 m3 cS cI cK hb4 C3 X3 B3 hs ki h8
    go_wp2_with fail
    refine (drawEatAll sa sl sc _ c8.out hl).mono ?_
    rintro e' w5 ⟨⟨d, t, rfl, hsd, ht⟩, hb5⟩
    have C5 : Hid (Four w5 w1.heap.size c) := C4.out.next hb5
    have X5 : Hid (Four w5 w2.heap.size e) := X4.out.next hb5
    have B5 : Hid (Below w.heap.size w w5) := past5 B4.out hb5
    clear C4 X4 B4 hb5 c8
    have pi : Hid (∀ w, Calls Try.prog 15 #[ckV d, .string t] w fun e w' => e = .returned (.tuple #[ckV (allC d t.data.toList), .int .i64 (allN d t.data.toList : Int)]) ∧ Below w.heap.size w w') := fun w => implAll d t w (by have := hsd.1; omega) (by have := hsd.2; omega) (by omega)
    have ps : Hid (∀ w, Calls Try.prog 16 #[ckV d, .string t] w fun e w' => e = .returned (.tuple #[ckV (allC d t.data.toList), .int .i64 (allN d t.data.toList : Int)]) ∧ Below w.heap.size w w') := fun w => specAll d t w (by have := hsd.1; omega) (by have := hsd.2; omega) (by omega)
    have kd : Hid (∀ w, Calls Try.prog 13 #[ckV d] w fun e w' => e = .returned (.bool (okC d)) ∧ Below w.heap.size w w') := fun w => specOk5 d w (by have := hsd.2; omega) (by have := hsd.1; omega)
    have ke : Hid (∀ w, Calls Try.prog 12 #[ckV e] w fun e' w' => e' = .returned (.bool (okC e)) ∧ Below w.heap.size w w') := fun w => implOk e w (by have := hE.out.1; omega) (by have := hE.out.2; omega)
    have kf : Hid (∀ w, Calls Try.prog 13 #[ckV e] w fun e' w' => e' = .returned (.bool (okC e)) ∧ Below w.heap.size w w') := fun w => specOk5 e w (by have := hE.out.2; omega) (by have := hE.out.1; omega)
    have hY : Hid (okC d = true → allC d t.data.toList = fin d t.data.toList ∧ allN d t.data.toList = cnt d t.data.toList) := fun h => ⟨allC_yes h _, allN_yes h _⟩
    generalize allC d t.data.toList = y at pi ps hY
    generalize allN d t.data.toList = n at pi ps hY
    unfold ckV at pi ps kd ke kf ⊢
    go_wp2_with fail
    refine (pi.out _).mono ?_
    rintro e' w6 ⟨rfl, hb6⟩
    have C6 : Hid (Four w6 w1.heap.size c) := (C5.out.alloc _).next hb6
    have X6 : Hid (Four w6 w2.heap.size e) := (X5.out.alloc _).next hb6
    have D6 : Hid (Four w6 w5.heap.size d) := (Four.new w5 d).next hb6
    have B6 : Hid (Below w.heap.size w w6) := pastA5 B5.out hb6
    have l6 : w5.heap.size < w6.heap.size := D6.out.hi
    have a0 := D6.out.c0
    have a1 := D6.out.c1
    have a2 := D6.out.c2
    have a3 := D6.out.c3
    clear C5 X5 B5 hb6 pi
    go_wp2_with fail
    refine (ps.out _).mono ?_
    rintro e' w7 ⟨rfl, hb7⟩
    have C7 : Hid (Four w7 w1.heap.size c) := (C6.out.alloc _).next hb7
    have X7 : Hid (Four w7 w2.heap.size e) := (X6.out.alloc _).next hb7
    have D7 : Hid (Four w7 w5.heap.size d) := (D6.out.alloc _).next hb7
    have Y7 : Hid (Four w7 w6.heap.size y) := (Four.new w6 y).next hb7
    have B7 : Hid (Below w.heap.size w w7) := pastA5 B6.out hb7
    have l7 : w6.heap.size < w7.heap.size := Y7.out.hi
    have m7 : w1.heap.size < w7.heap.size := C7.out.hi
    clear a0 a1 a2 a3 C6 X6 D6 B6 hb7 ps l6
    have a0 := C7.out.c0
    have a1 := C7.out.c1
    have a2 := C7.out.c2
    have a3 := C7.out.c3
    have b0 := Y7.out.c0
    have b1 := Y7.out.c1
    have b2 := Y7.out.c2
    have b3 := Y7.out.c3
    go_wp2_with fail
    refine (ks.out _).mono ?_
    rintro e' w8 ⟨rfl, hb8⟩
    have X8 : Hid (Four w8 w2.heap.size e) := (X7.out.alloc _).next hb8
    have D8 : Hid (Four w8 w5.heap.size d) := (D7.out.alloc _).next hb8
    have Y8 : Hid (Four w8 w6.heap.size y) := (Y7.out.alloc _).next hb8
    have B8 : Hid (Below w.heap.size w w8) := pastA5 B7.out hb8
    clear a0 a1 a2 a3 b0 b1 b2 b3 C7 X7 D7 Y7 B7 hb8 ks l7 m7
    have a0 := X8.out.c0
    have a1 := X8.out.c1
    have a2 := X8.out.c2
    have a3 := X8.out.c3
    cases hc : okC c with
    | false =>
      obtain rfl : e = zeroC := hEn.out hc
      clear a0 a1 a2 a3
      have a0 : w8.cell? ⟨w2.heap.size, 0, none⟩ = some (.int .i64 0) := X8.out.c0
      have a1 : w8.cell? ⟨w2.heap.size, 1, none⟩ = some (.int .i64 0) := X8.out.c1
      have a2 : w8.cell? ⟨w2.heap.size, 2, none⟩ = some (.string ⟨#[]⟩) := X8.out.c2
      have a3 : w8.cell? ⟨w2.heap.size, 3, none⟩ = some (.string ⟨#[]⟩) := X8.out.c3
      go_wp2
      go_ret
      exact ⟨rfl, B8.out⟩
    | true =>
      have he : okC e = true := hEy.out hc
      rw [he] at ke kf
      go_wp2_with fail
      refine (ke.out _).mono ?_
      rintro e' w9 ⟨rfl, hb9⟩
      have X9 : Hid (Four w9 w2.heap.size e) := X8.out.next hb9
      have D9 : Hid (Four w9 w5.heap.size d) := D8.out.next hb9
      have Y9 : Hid (Four w9 w6.heap.size y) := Y8.out.next hb9
      have B9 : Hid (Below w.heap.size w w9) := past5 B8.out hb9
      clear a0 a1 a2 a3 X8 D8 Y8 B8 hb9 ke
      have a0 := D9.out.c0
      have a1 := D9.out.c1
      have a2 := D9.out.c2
      have a3 := D9.out.c3
      go_wp2_with fail
      refine (kd.out _).mono ?_
      rintro e' w10 ⟨rfl, hb10⟩
      have X10 : Hid (Four w10 w2.heap.size e) := X9.out.next hb10
      have D10 : Hid (Four w10 w5.heap.size d) := D9.out.next hb10
      have Y10 : Hid (Four w10 w6.heap.size y) := Y9.out.next hb10
      have B10 : Hid (Below w.heap.size w w10) := past5 B9.out hb10
      clear a0 a1 a2 a3 X9 D9 Y9 B9 hb10 kd
      cases hd : okC d with
      | false =>
        have a0 := X10.out.c0
        have a1 := X10.out.c1
        have a2 := X10.out.c2
        have a3 := X10.out.c3
        go_wp2_with (go_at_call 13; refine (kf.out _).mono ?_; rintro e' w11 ⟨rfl, hb11⟩)
        go_ret
        exact ⟨rfl, past5 B10.out hb11⟩
      | true =>
        have hod : okP d := okC_is hd
        obtain ⟨ey, en⟩ := hY.out hd
        have a0 := D10.out.c0
        have a1 := D10.out.c1
        have a2 := D10.out.c2
        have a3 := D10.out.c3
        have l10 : w6.heap.size < w10.heap.size := Y10.out.hi
        have K10 : Hid (Four (w10.alloc (.cells #[.int .i64 d.st, .int .i64 d.lf, .string d.dg, .string d.bd] 25)) w10.heap.size d) := Four.new w10 d
        have hnt : n ≤ t.size := by rw [en]; have := cnt_le d t.data.toList; simpa using this
        have hlast : Hid (n = t.size ∨ 8 ≤ y.st) := by
          rw [ey, en]
          rcases cnt_all d t.data.toList with h | h
          · exact .inl (by rw [h]; simp)
          · exact .inr h
        have hfin : Hid (fin d (t.data.toList.take n) = y) := by rw [ey, en]; exact fin_cnt _ _
        have hoy : okC y = true := by rw [ey]; exact okC_yes (ok_fin hod _)
        have HY : Hid (y = fin d t.data.toList) := ey
        clear ey en hY
        go_wp2
        go_loopw [13] (fun i wr => ∃ k : Nat, i = .int .i64 k ∧ k ≤ n ∧ Hid (Four wr w10.heap.size (fin d (t.data.toList.take k))) ∧ Hid (Four wr w6.heap.size y) ∧ Hid (Below w.heap.size w wr)) (fun i _ => n - (intOf i).toNat)
        case atStart =>
          refine ⟨0, rfl, Nat.zero_le _, ?_, ?_, ?_⟩
          · exact K10
          · exact Y10.out.alloc _
          · exact B10.out.alloc B10.out.size _
        case round =>
          obtain ⟨k, rfl, hk, KR, YR, BR⟩ := hrel
          by_cases hlt : k < n
          · have hks : k < t.size := by omega
            have hok : okC (fin d (t.data.toList.take k)) = true := okC_yes (ok_fin hod _)
            have hsk := small_ok hok
            have hm := implEat (fin d (t.data.toList.take k)) t[k] wr.drew (by have := hsk.1; omega) (by have := hsk.2; omega)
            rw [allC_yes hok, ← fin_next d hks] at hm
            clear hsk hok
            obtain ⟨g, hg⟩ : ∃ g, fin d (t.data.toList.take (k + 1)) = g := ⟨_, rfl⟩
            rw [hg] at hm
            have HG : Hid (fin d (t.data.toList.take (k + 1)) = g) := hg
            clear hg
            generalize fin d (t.data.toList.take k) = f at hm KR
            unfold ckV at hm
            have a0 := KR.out.c0
            have a1 := KR.out.c1
            have a2 := KR.out.c2
            have a3 := KR.out.c3
            have af := KR.out.fz
            go_wp2
            go_region_with (go_at_call 10; refine hm.mono ?_; rintro e' w12 ⟨rfl, hb12⟩; have p1 : Hid (Four w12 w10.heap.size f) := KR.out.drew.kept hb12 KR.out.hi; have p2 : Hid (Four w12 w6.heap.size y) := YR.out.drew.kept hb12 YR.out.hi; have pB : Hid (Below w.heap.size w w12) := BR.out.trans ((show Below wr.heap.size wr w12 from ⟨hb12.os, hb12.tape, hb12.output, hb12.size, hb12.block⟩).mono BR.out.size); have s0 := p1.out.c0; have s1 := p1.out.c1; have s2 := p1.out.c2; have s3 := p1.out.c3; have sf := p1.out.fz)
            all_goals
              go_wp2
              go_roundw
              case rel =>
                refine ⟨k + 1, by go_num, by omega, ?_, ?_, ?_⟩
                · have e1 : fin d (t.data.toList.take (k + 1)) = g := HG.out
                  rw [e1]
                  exact p1.out.put g
                · exact (((p2.out.beside (by omega) _).beside (by omega) _).beside (by omega) _).beside (by omega) _
                · have hB10 := B10.out.size
                  exact (((pB.out.setCell hB10 _).setCell hB10 _).setCell hB10 _).setCell hB10 _
              case measure => simp [intOf]; omega
          · obtain rfl : k = n := by omega
            have hf : fin d (t.data.toList.take k) = y := hfin.out
            rw [hf] at KR
            have hy := implOk y wr (by have := (small_ok hoy).1; omega) (by have := (small_ok hoy).2; omega)
            rw [hoy] at hy
            unfold ckV at hy
            have a0 := KR.out.c0
            have a1 := KR.out.c1
            have a2 := KR.out.c2
            have a3 := KR.out.c3
            have b0 := YR.out.c0
            have b1 := YR.out.c1
            have b2 := YR.out.c2
            have b3 := YR.out.c3
            go_wp2_with fail
            refine hy.mono ?_
            rintro e' w11 ⟨rfl, hb11⟩
            have YS : Hid (Four w11 w6.heap.size y) := YR.out.next hb11
            have BS : Hid (Below w.heap.size w w11) := past5 BR.out hb11
            clear a0 a1 a2 a3 b0 b1 b2 b3
            have b0 := YS.out.c0
            rcases hlast.out with hl1 | hl1
            · subst hl1
              go_wp2
              go_ret
              exact ⟨rfl, BS.out⟩
            · have hq : decide (8 ≤ y.st) = true := by simpa using hl1
              by_cases hkt : k = t.size
              · subst hkt
                go_wp2
                go_ret
                exact ⟨rfl, BS.out⟩
              · have hkt' : ((k : Int) == (t.size : Int)) = false := by simp; omega
                go_wp2
                go_ret
                exact ⟨rfl, BS.out⟩
end Go.Proofs.Ytbdnfajdpajfpaa

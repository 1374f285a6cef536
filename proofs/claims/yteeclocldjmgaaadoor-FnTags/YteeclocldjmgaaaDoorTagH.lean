/-
  What is drawn for the laws of tags: small tags, small texts.
-/
import Derived.Test.YteeclocldjmgaaaDoorTagG
import Derived.Test.YteeclocldjmgaaaDoorBend
namespace Go.Proofs.YteeclocldjmgaaaDoor
open Go.RowKit
set_option linter.unusedVariables false

theorem Code8.up7 {w : World} {b B : Nat} {sa : Option Addr} {sl : Nat} (h : Code8 w b sa sl) (hB : b ≤ B) : Code8 w B sa sl := fun j hj => by
  obtain ⟨g, o, z, h1, h2, h3, h4⟩ := h j hj
  exact ⟨g, o, z, h1, by omega, h3, h4⟩
theorem shT_size {x : Tg} : (shT x).size ≤ 44 := by
  cases h : tagB x.t with
  | false => rw [shT_no h]; show 0 ≤ 44; omega
  | true => rw [shT_yes h]; have := shU_size x; have := tagB_size h; split at * <;> omega
/-- A new cursor behind one block, or two. -/
theorem born7 (o : Obj) (sa : Option Addr) (sl sc : Nat) (w : World) (hc : Code8 w w.heap.size sa sl) (hl : sl ≤ 4096) :
    Calls Tryd.prog 32 #[.slice sa sl sc] (w.alloc o) fun e w' => e = .returned (.pointer (some ⟨w.heap.size + 1, 0, none⟩)) ∧ Cur w' (w.heap.size + 1) sa sl sc ∧ Below (w.heap.size + 1) (w.alloc o) w' := by
  have hb0 : Below w.heap.size w (w.alloc o) := (Below.refl _ w).alloc (Nat.le_refl _) _
  have := l1New sa sl sc (w.alloc o) ((hc.kept hb0 (Nat.le_refl _)).up7 hb0.size) hl
  rw [show (w.alloc o).heap.size = w.heap.size + 1 by simp] at this
  exact this
set_option maxHeartbeats 1000000 in
theorem drawTok (sa : Option Addr) (sl sc : Nat) (w : World) (hc : Code8 w w.heap.size sa sl) (hl : sl ≤ 4096) :
    Calls Tryd.prog 26 #[.slice sa sl sc] w fun e w' => (∃ x : Tg, e = .returned (tgV x) ∧ x.t.size ≤ 41) ∧ Below w.heap.size w w' := by
  have hN := born7 (.cells #[.bool false, .string ⟨#[]⟩] 25) sa sl sc w hc hl
  have T0 := TgB.new w noT 25
  have b0 : Below w.heap.size w (w.alloc (.cells #[.bool false, .string ⟨#[]⟩] 25)) := (Below.refl _ w).alloc (Nat.le_refl _) _
  clear hc
  go_enter Tryd.func26, Tryd.ntmps26
  go_wp2_with fail
  refine hN.mono ?_
  rintro e w1 ⟨rfl, hc1, hb1⟩
  have T1 : TgB w1 w.heap.size noT := T0.kept (hb1.mono (by simp))
  have B1 : Below w.heap.size w w1 := b0.trans (hb1.mono (by omega))
  clear hN T0 b0 hb1
  go_wp2_with fail
  refine (l7Draw (w.heap.size + 1) sa sl sc w1 hc1).mono ?_
  rintro e w2 ⟨⟨x, rfl, hsm⟩, hc2, hb2⟩
  have T2 := T1.bs hb2 (by omega)
  have B2 : Hid (Below w.heap.size w w2) := B1.trans (hb2.low (by omega) B1.size)
  have d0 := T2.c0
  have d1 := T2.c1
  have df := T2.fz
  unfold tgV
  clear T1 T2 hc1 hc2 hb2 B1
  go_wp2
  refine bodyPost_ret (v := .agg #[.bool x.w, .string x.t]) (by simp [results, Tryd.results26, go_sem, d0, d1]) rfl ⟨⟨x, rfl, hsm⟩, ?_⟩
  repeat (refine Below.setCell ?_ (by simp) _)
  exact B2.out
set_option maxHeartbeats 1000000 in
theorem drawTsh (sa : Option Addr) (sl sc : Nat) (w : World) (hc : Code8 w w.heap.size sa sl) (hl : sl ≤ 4096) :
    Calls Tryd.prog 7 #[.slice sa sl sc] w fun e w' => (∃ x : Tg, e = .returned (tgV x) ∧ x.t.size ≤ 41) ∧ Below w.heap.size w w' := by
  have b0 : Below w.heap.size w (w.alloc (.cells #[.bool false, .string ⟨#[]⟩] 25)) := (Below.refl _ w).alloc (Nat.le_refl _) _
  have hN := drawTok sa sl sc (w.alloc (.cells #[.bool false, .string ⟨#[]⟩] 25)) ((hc.kept b0 (Nat.le_refl _)).up7 b0.size) hl
  have T0 := TgB.new w noT 25
  clear hc
  go_enter Tryd.func7, Tryd.ntmps7
  go_wp2_with fail
  refine hN.mono ?_
  rintro e w2 ⟨⟨x, rfl, hsm⟩, hb2⟩
  have T2 : TgB w2 w.heap.size noT := T0.kept hb2
  have B2 : Hid (Below w.heap.size w w2) := past7 b0 hb2
  have d0 := T2.c0
  have d1 := T2.c1
  have df := T2.fz
  unfold tgV
  clear T0 T2 hb2 b0 hN
  go_wp2
  refine bodyPost_ret (v := .agg #[.bool x.w, .string x.t]) (by simp [results, Tryd.results7, go_sem, d0, d1]) rfl ⟨⟨x, rfl, hsm⟩, ?_⟩
  repeat (refine Below.setCell ?_ (by simp) _)
  exact B2.out
set_option maxHeartbeats 1000000 in
theorem drawTrd (sa : Option Addr) (sl sc : Nat) (w : World) (hc : Code8 w w.heap.size sa sl) (hl : sl ≤ 4096) :
    Calls Tryd.prog 12 #[.slice sa sl sc] w fun e w' => (∃ s : ByteArray, e = .returned (.string s) ∧ s.size ≤ 50) ∧ Below w.heap.size w w' := by
  have hN := l1New sa sl sc w hc hl
  clear hc
  go_enter Tryd.func12, Tryd.ntmps12
  go_wp2_with fail
  refine hN.mono ?_
  rintro e w1 ⟨rfl, hc1, hb1⟩
  clear hN
  go_wp2_with fail
  refine (l7Draw w.heap.size sa sl sc w1 hc1).mono ?_
  rintro e w2 ⟨⟨x, rfl, hsm⟩, hc2, hb2⟩
  have B2 : Hid (Below w.heap.size w w2) := hb1.trans (hb2.low (Nat.le_refl _) hb1.size)
  have hsh := specSh x w2 (by unfold maxLen; omega)
  have hz := @shT_size x
  unfold tgV at hsh ⊢
  generalize shT x = S at hsh hz
  clear hc1 hb1 hb2
  go_wp2_with fail
  refine hsh.mono ?_
  rintro e w3 ⟨rfl, hb3⟩
  have B3 : Hid (Below w.heap.size w w3) := past7 B2.out hb3
  have hc3 := hc2.kept hb3 hc2.2.2.1
  clear hsh hc2 hb3 B2
  go_wp2_with fail
  refine (l1Once w.heap.size sa sl sc 2 (by decide) (by decide) _ hc3).mono ?_
  rintro e w4 ⟨tt, rfl, hc4, hb4⟩
  have B4 : Hid (Below w.heap.size w w4) := B3.out.trans (hb4.low (Nat.le_refl _) B3.out.size)
  clear hc3 hb4 B3
  cases tt with
  | false =>
    go_wp2
    go_ret
    exact ⟨⟨S, rfl, by omega⟩, B4.out⟩
  | true =>
    go_wp2_with fail
    refine (l1Bend w.heap.size sa sl sc S ⟨#[97, 87, 47, 34, 32]⟩ (by omega) (by decide) (by decide) _ hc4).mono ?_
    rintro e w5 ⟨t, rfl, ht, hc5, hb5⟩
    have B5 : Hid (Below w.heap.size w w5) := B4.out.trans (hb5.low (Nat.le_refl _) B4.out.size)
    clear hc4 hc5 hb5
    go_wp2
    go_ret
    exact ⟨⟨t, rfl, by omega⟩, B5.out⟩
set_option maxRecDepth 100000 in
set_option maxHeartbeats 2000000 in
theorem drawTst (sa : Option Addr) (sl sc : Nat) (w : World) (hc : Code8 w w.heap.size sa sl) (hl : sl ≤ 4096) :
    Calls Tryd.prog 14 #[.slice sa sl sc] w fun e w' => (∃ x y : Tg, e = .returned (.tuple #[tgV x, tgV y]) ∧ x.t.size ≤ 41 ∧ y.t.size ≤ 41) ∧ Below w.heap.size w w' := by
  have b0 : Below w.heap.size w (w.alloc (.cells #[.bool false, .string ⟨#[]⟩] 25)) := (Below.refl _ w).alloc (Nat.le_refl _) _
  have hN := born7 (.cells #[.bool false, .string ⟨#[]⟩] 25) sa sl sc (w.alloc (.cells #[.bool false, .string ⟨#[]⟩] 25)) ((hc.kept b0 (Nat.le_refl _)).up7 b0.size) hl
  rw [show (w.alloc (.cells #[.bool false, .string ⟨#[]⟩] 25)).heap.size = w.heap.size + 1 by simp] at hN
  have T0 : TgB ((w.alloc (.cells #[.bool false, .string ⟨#[]⟩] 25)).alloc (.cells #[.bool false, .string ⟨#[]⟩] 25)) w.heap.size noT := (TgB.new w noT 25).alloc _
  have U0 : TgB ((w.alloc (.cells #[.bool false, .string ⟨#[]⟩] 25)).alloc (.cells #[.bool false, .string ⟨#[]⟩] 25)) (w.heap.size + 1) noT := by
    have := TgB.new (w.alloc (.cells #[.bool false, .string ⟨#[]⟩] 25)) noT 25
    simp only [World.size_alloc] at this
    exact this
  clear hc
  go_enter Tryd.func14, Tryd.ntmps14
  go_wp2_with fail
  refine hN.mono ?_
  rintro e w1 ⟨rfl, hc1, hb1⟩
  have T1 : TgB w1 w.heap.size noT := T0.kept (hb1.mono (by simp))
  have U1 : TgB w1 (w.heap.size + 1) noT := U0.kept (hb1.mono (by simp))
  have B1 : Below w.heap.size w w1 := (b0.alloc b0.size _).trans (hb1.mono (by omega))
  clear hN T0 U0 b0 hb1
  go_wp2_with fail
  refine (l7Draw (w.heap.size + 1 + 1) sa sl sc w1 hc1).mono ?_
  rintro e w2 ⟨⟨x, rfl, hsm⟩, hc2, hb2⟩
  have T2 : Hid (TgB (w2.alloc (.cells #[.bool x.w, .string x.t] 25)) w.heap.size noT) := (T1.bs hb2 (by omega)).alloc _
  have U2 : Hid (TgB (w2.alloc (.cells #[.bool x.w, .string x.t] 25)) (w.heap.size + 1) noT) := (U1.bs hb2 (by omega)).alloc _
  have X2 : Hid (TgB (w2.alloc (.cells #[.bool x.w, .string x.t] 25)) w2.heap.size x) := TgB.new w2 x 25
  have B2 : Hid (Below w.heap.size w (w2.alloc (.cells #[.bool x.w, .string x.t] 25))) := by
    have := B1.trans (hb2.low (by omega) B1.size)
    exact this.alloc this.size _
  have HC : Hid (Cur (w2.alloc (.cells #[.bool x.w, .string x.t] 25)).drew (w.heap.size + 1 + 1) sa sl sc) := hc2.more7 (.cells #[.bool x.w, .string x.t] 25)
  have z2 : w.heap.size + 1 + 1 < w2.heap.size := hc2.2.2.1
  have x0 := X2.out.c0
  have x1 := X2.out.c1
  unfold tgV
  clear T1 U1 hc1 hb2 B1
  go_wp2
  go_region_with (go_at_call 33; refine (l7Draw (w.heap.size + 1 + 1) sa sl sc _ HC.out).mono ?_; rintro e w3 ⟨⟨y, rfl, hsy⟩, hc3, hb3'⟩; have hb3 : Beside (w.heap.size + 1 + 1) (w2.alloc (.cells #[.bool x.w, .string x.t] 25)) w3 := hb3'; clear hb3'; have T3 := T2.out.bs hb3 (by omega); have U3 := U2.out.bs hb3 (by omega); have X3 := X2.out.bs hb3 (by omega); have d0 := T3.c0; have d1 := T3.c1; have df := T3.fz; have u0 := U3.c0; have u1 := U3.c1; have uf := U3.fz; have y0 := X3.c0; have y1 := X3.c1; have B3 : Hid (Below w.heap.size w w3) := B2.out.trans (hb3.low (by omega) B2.out.size); have hn3 : w.heap.size + 1 < w3.heap.size := U3.hi; unfold tgV; clear T3 U3 X3 hb3 hc3)
  all_goals
    go_wp2
    refine bodyPost_ret (v := .tuple #[.agg #[.bool x.w, .string x.t], .agg #[.bool y.w, .string y.t]]) (by simp [results, Tryd.results14, go_sem, d0, d1, u0, u1]) rfl ⟨⟨x, y, rfl, hsm, hsy⟩, ?_⟩
    repeat (refine Below.setCell ?_ (by simp <;> omega) _)
    exact B3.out
set_option maxRecDepth 100000 in
set_option maxHeartbeats 2000000 in
theorem drawTnm (sa : Option Addr) (sl sc : Nat) (w : World) (hc : Code8 w w.heap.size sa sl) (hl : sl ≤ 4096) :
    Calls Tryd.prog 15 #[.slice sa sl sc] w fun e w' => (∃ (s : ByteArray) (x : Tg) (b : Bool), e = .returned (.tuple #[.string s, tgV x, .bool b]) ∧ s.size ≤ 200 ∧ x.t.size ≤ 41) ∧ Below w.heap.size w w' := by
  have hN := born7 (.cells #[.bool false, .string ⟨#[]⟩] 25) sa sl sc w hc hl
  have T0 := TgB.new w noT 25
  have b0 : Below w.heap.size w (w.alloc (.cells #[.bool false, .string ⟨#[]⟩] 25)) := (Below.refl _ w).alloc (Nat.le_refl _) _
  have fin : Hid (∀ (s : ByteArray) (W : World), s.size ≤ 200 → TgB W w.heap.size noT → Cur W (w.heap.size + 1) sa sl sc → Below w.heap.size w W → True) := fun _ _ _ _ _ _ => trivial
  clear hc
  go_enter Tryd.func15, Tryd.ntmps15
  go_wp2_with fail
  refine hN.mono ?_
  rintro e w1 ⟨rfl, hc1, hb1⟩
  have T1 : TgB w1 w.heap.size noT := T0.kept (hb1.mono (by simp))
  have B1 : Below w.heap.size w w1 := b0.trans (hb1.mono (by omega))
  clear hN T0 b0 hb1 fin
  go_wp2_with fail
  refine (l1Once (w.heap.size + 1) sa sl sc 5 (by decide) (by decide) _ hc1).mono ?_
  rintro e w2 ⟨tt, rfl, hc2, hb2⟩
  have T2 := T1.bs hb2 (by omega)
  have B2 : Below w.heap.size w w2 := B1.trans (hb2.low (by omega) B1.size)
  clear T1 B1 hc1 hb2
  cases tt with
  | true =>
    go_wp2_with fail
    refine (l7Draw (w.heap.size + 1) sa sl sc w2 hc2).mono ?_
    rintro e w3 ⟨⟨x, rfl, hsm⟩, hc3, hb3⟩
    have T3 := T2.bs hb3 (by omega)
    have B3 : Below w.heap.size w w3 := B2.trans (hb3.low (by omega) B2.size)
    unfold tgV
    clear T2 B2 hc2 hb3
    go_wp2_with fail
    refine (l1Once (w.heap.size + 1) sa sl sc 4 (by decide) (by decide) _ hc3).mono ?_
    rintro e w4 ⟨th, rfl, hc4, hb4⟩
    have T4 := T3.bs hb4 (by omega)
    have B4 : Hid (Below w.heap.size w w4) := B3.trans (hb4.low (by omega) B3.size)
    have d0 := T4.c0
    have d1 := T4.c1
    have df := T4.fz
    clear T3 T4 B3 hc3 hc4 hb4
    go_wp2
    refine bodyPost_ret (v := .tuple #[.string ⟨#[42]⟩, .agg #[.bool x.w, .string x.t], .bool (!th)]) (by simp [results, Tryd.results15, go_sem, d0, d1]) rfl ⟨⟨⟨#[42]⟩, x, !th, rfl, by decide, hsm⟩, ?_⟩
    repeat (refine Below.setCell ?_ (by simp) _)
    exact B4.out
  | false =>
    go_wp2_with fail
    refine (l1Below (w.heap.size + 1) sa sl sc 3 (by decide) (by decide) _ hc2).mono ?_
    rintro e w3 ⟨n, rfl, hn0, hn1, hc3, hb3⟩
    obtain ⟨n, rfl⟩ := Int.eq_ofNat_of_zero_le hn0
    have T3 := T2.bs hb3 (by omega)
    have B3 : Below w.heap.size w w3 := B2.trans (hb3.low (by omega) B2.size)
    clear T2 B2 hc2 hb3
    go_wp2
    go_loopw [6, 7] (fun a i wr => ∃ (s : ByteArray) (k : Nat), a = .string s ∧ i = .int .i64 k ∧ s.size + 46 * k ≤ 200 ∧ TgB wr w.heap.size noT ∧ Cur wr (w.heap.size + 1) sa sl sc ∧ Below w.heap.size w wr) (fun _ i _ => (intOf i).toNat)
    case atStart => exact ⟨⟨#[]⟩, 1 + n, rfl, by go_num, by show 0 + 46 * (1 + n) ≤ 200; omega, T3, hc3, B3⟩
    case round =>
      obtain ⟨s, k, rfl, rfl, hsk, hT, hC, hB⟩ := hrel
      have hT' : Hid (TgB wr w.heap.size noT) := hT
      have hB' : Hid (Below w.heap.size w wr) := hB
      clear T3 hc3 B3 hT hB
      by_cases h0 : 0 < k
      · go_wp2_with fail
        refine (l7Draw (w.heap.size + 1) sa sl sc wr hC).mono ?_
        rintro e w4 ⟨⟨x, rfl, hsm⟩, hc4, hb4⟩
        have T4 := hT'.out.bs hb4 (by omega)
        have B4 : Below w.heap.size w w4 := hB'.out.trans (hb4.low (by omega) hB'.out.size)
        have hsh := specSh x w4 (by unfold maxLen; omega)
        have hz := @shT_size x
        unfold tgV at hsh ⊢
        generalize shT x = S at hsh hz
        clear hC hb4 hT' hB'
        go_wp2_with fail
        refine hsh.mono ?_
        rintro e w5 ⟨rfl, hb5⟩
        have T5 : Hid (TgB w5 w.heap.size noT) := T4.kept hb5
        have B5 : Hid (Below w.heap.size w w5) := past7 B4 hb5
        have hc5 := hc4.kept hb5 hc4.2.2.1
        have e1 : (s ++ S).size = s.size + S.size := ByteArray.size_append
        have e2 : (s ++ S ++ (⟨#[44, 32]⟩ : ByteArray)).size = s.size + S.size + 2 := by rw [ByteArray.size_append, e1]; rfl
        clear T4 B4 hc4 hb5 hsh
        go_wp2
        go_roundw
        case rel => exact ⟨_, k - 1, rfl, by go_num, by rw [e2]; omega, T5.out, hc5, B5.out⟩
        case measure => simp [intOf]; omega
      · obtain rfl : k = 0 := by omega
        go_wp2_with fail
        refine (l7Draw (w.heap.size + 1) sa sl sc wr hC).mono ?_
        rintro e w4 ⟨⟨x, rfl, hsm⟩, hc4, hb4⟩
        have T4 := hT'.out.bs hb4 (by omega)
        have B4 : Below w.heap.size w w4 := hB'.out.trans (hb4.low (by omega) hB'.out.size)
        unfold tgV
        clear hC hb4 hT' hB'
        go_wp2_with fail
        refine (l1Once (w.heap.size + 1) sa sl sc 4 (by decide) (by decide) _ hc4).mono ?_
        rintro e w5 ⟨th, rfl, hc5, hb5⟩
        have T5 := T4.bs hb5 (by omega)
        have B5 : Hid (Below w.heap.size w w5) := B4.trans (hb5.low (by omega) B4.size)
        have d0 := T5.c0
        have d1 := T5.c1
        have df := T5.fz
        clear T4 T5 B4 hc4 hc5 hb5
        go_wp2
        refine bodyPost_ret (v := .tuple #[.string s, .agg #[.bool x.w, .string x.t], .bool (!th)]) (by simp [results, Tryd.results15, go_sem, d0, d1]) rfl ⟨⟨s, x, !th, rfl, by omega, hsm⟩, ?_⟩
        repeat (refine Below.setCell ?_ (by simp) _)
        exact B5.out
end Go.Proofs.YteeclocldjmgaaaDoor

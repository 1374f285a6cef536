/-
  The program's Both.
-/
import Derived.Test.YtdoolnaekmffbaaIkF
import Derived.Test.YtdoolnaekmffbaaIkG
import Derived.Test.YtdoolnaekmffbaaSkE
import Derived.Test.YtdoolnaekmffbaaRgS
namespace Go.Proofs.Ytdoolnaekmffbaa
open Go.RowKit Go.Sort Ow Sk
set_option linter.unusedVariables false
set_option linter.unusedSimpArgs false

theorem bth_on {n : Int} {l l2 : List Int} (h : SkOk n l) (h2 : SkOk n l2) : onL (inF (l ++ l2)) 512 = putAll l2 l :=
  onL_in (putAll_ris l2 l h.ris) (fun y => by rw [putAll_mem, List.mem_append]; exact Or.comm)
    (fun x hx => by have := h.sz; rcases List.mem_append.1 hx with hx | hx
                    · have := h.inn x hx; omega
                    · have := h2.inn x hx; omega)
theorem HasE.other {α : Type} {E : Enc α} {ty : TypeId} {w : World} {B : Nat} {v : Value} {l : List α} (h : HasE E ty w B v l) (a : Addr) (u : Value) (hne : ∀ k, v.ownBlock = some k → k ≠ a.block) : HasE E ty (w.setCell a u) B v l := by
  rcases h with h0 | ⟨g, cap, cur, hv, hbg, hg, rest⟩
  · exact .inl h0
  · exact .inr ⟨g, cap, cur, hv, hbg, by rw [Below.heap_setCell _ _ _ _ (hne g (by rw [hv]; rfl))]; exact hg, rest⟩
def frBt (s t : Nat → Value) : Act := { tmps := #[s 0, s 1, s 2, s 3, s 4, s 5, s 6, s 7, s 8, s 9, s 10, s 11, s 12, s 13, s 14, s 15, s 16, s 17, s 18, s 19, s 20, s 21, s 22, s 23, s 24, s 25, s 26, s 27, s 28, s 29, t 30, t 31, t 32, t 33, t 34], defers := [] }
def dBt (i : Nat) : Nat := if i < 5 then i + 30 else i + 5000
def GBt (w w5 : World) (n : Int) (f : Nat → Bool) (L : List Int) (i : Nat) (x : World) (v : Value) : Prop := match i with
  | 0 => v = .pointer (some ⟨w.heap.size, 0, none⟩)
  | 1 => v = .int .i64 n
  | 2 => v = .agg (flgs f)
  | 3 => ∃ g c, v = .slice (some ⟨g, 0, none⟩) L.length c ∧ HasN x w5.heap.size (.slice (some ⟨g, 0, none⟩) L.length c) L
  | 4 => ∃ g c, v = .agg #[.int .i64 n, .slice (some ⟨g, 0, none⟩) L.length c] ∧ HasN x w5.heap.size (.slice (some ⟨g, 0, none⟩) L.length c) L
  | _ => True
theorem GBt.keep {w w5 : World} {n : Int} {f : Nat → Bool} {L : List Int} {x y : World} (hb : Below x.heap.size x y) (j : Nat) (v : Value) (hj : j < 5) (h : GBt w w5 n f L j x v) : GBt w w5 n f L j y v := by
  rcases (show j = 0 ∨ j = 1 ∨ j = 2 ∨ j = 3 ∨ j = 4 by omega) with rfl | rfl | rfl | rfl | rfl
  · exact h
  · exact h
  · exact h
  · obtain ⟨g, c, h1, h2⟩ := h; exact ⟨g, c, h1, h2.kept hb⟩
  · obtain ⟨g, c, h1, h2⟩ := h; exact ⟨g, c, h1, h2.kept hb⟩
theorem dBt_ne {i j : Nat} (hi : i < 5) (hj : j < 5) (h : j ≠ i) : dBt j ≠ dBt i := by
  unfold dBt
  rw [if_pos hi, if_pos hj]
  omega
set_option maxRecDepth 100000 in
set_option maxHeartbeats 4000000 in
theorem implBth (n : Int) (v : Value) (l : List Int) (n2 : Int) (v2 : Value) (l2 : List Int) (w : World) (h : Sls intE w v l) (h2 : Sls intE w v2 l2) :
    Calls Try.prog 14 #[skV n v, skV n2 v2] w fun e w' => ∃ u, e = .returned (.tuple #[skV (bthQ n l n2 l2) u, .bool (bthB n l n2 l2)]) ∧ HasN w' w.heap.size u (bthL n l n2 l2) ∧ Below w.heap.size w w' := by
  obtain ⟨a, cap, rfl, _⟩ := h.one
  obtain ⟨a2, cap2, rfl, _⟩ := h2.one
  have hS := fun W hW => implSko n (.slice a l.length cap) l W hW
  have hT := fun W hW => implSko n2 (.slice a2 l2.length cap2) l2 W hW
  have K0 : Hid (Ke w (((w.alloc (.cells #[.int .i64 n, .slice a l.length cap] 26)).alloc (.cells #[.int .i64 n2, .slice a2 l2.length cap2] 26)).alloc (.cells #[.int .i64 0, .slice none 0 0] 26)) n a cap l n2 a2 cap2 l2) := Ke.new w n a cap l n2 a2 cap2 l2 h h2
  have HW : Hid (Sls intE w (.slice a l.length cap) l) := h
  have HW2 : Hid (Sls intE w (.slice a2 l2.length cap2) l2) := h2
  have hz0 : (((w.alloc (.cells #[.int .i64 n, .slice a l.length cap] 26)).alloc (.cells #[.int .i64 n2, .slice a2 l2.length cap2] 26)).alloc (.cells #[.int .i64 0, .slice none 0 0] 26)).heap.size = w.heap.size + 3 := by simp
  obtain ⟨M, hM⟩ : ∃ M, M = bthB n l n2 l2 := ⟨_, rfl⟩
  have HM : Hid (M = bthB n l n2 l2) := hM
  rw [← hM]
  clear hM
  unfold skV at *
  clear h h2
  go_enter Try.func14, Try.ntmps14
  generalize hwA : ((w.alloc (.cells #[.int .i64 n, .slice a l.length cap] 26)).alloc (.cells #[.int .i64 n2, .slice a2 l2.length cap2] 26)).alloc (.cells #[.int .i64 0, .slice none 0 0] 26) = wA at K0 hz0
  go_upto_region 1 with fail
  clear hwA
  go_cut [21] from 7 to 21 (fun s wx => s = .bool (!M) ∧ Hid (Ke w wx n a cap l n2 a2 cap2 l2) ∧ w.heap.size + 3 ≤ wx.heap.size)
  case first =>
    have x0 := K0.out.sx.cell 0
    have x1 := K0.out.sx.cell 1
    go_wp2_with fail
    refine (hS _ K0.out.sl).mono ?_
    rintro e w1 ⟨rfl, hb1⟩
    have K1 : Hid (Ke w w1 n a cap l n2 a2 cap2 l2) := K0.out.kept hb1
    have hz1 : w.heap.size + 3 ≤ w1.heap.size := by have := hb1.size; omega
    clear hb1 K0 x0 x1 hz0 hS
    cases hok : skOk n l with
    | false =>
      obtain rfl : M = false := by rw [HM.out]; unfold bthB; rw [hok]; rfl
      go_wp2_with fail
      go_meet
      exact ⟨rfl, K1, hz1⟩
    | true =>
      have x0 := K1.out.tx.cell 0
      have x1 := K1.out.tx.cell 1
      go_wp2_with fail
      refine (hT _ K1.out.tl).mono ?_
      rintro e w2 ⟨rfl, hb2⟩
      have K2 : Hid (Ke w w2 n a cap l n2 a2 cap2 l2) := K1.out.kept hb2
      have hz2 : w.heap.size + 3 ≤ w2.heap.size := by have := hb2.size; omega
      clear hb2 K1 x0 x1 hz1 hT
      cases hok2 : skOk n2 l2 with
      | false =>
        obtain rfl : M = false := by rw [HM.out]; unfold bthB; rw [hok, hok2]; rfl
        go_wp2_with fail
        go_meet
        exact ⟨rfl, K2, hz2⟩
      | true =>
        have x0 := K2.out.sx.cell 0
        have y0 := K2.out.tx.cell 0
        have hMe : M = decide (n = n2) := by rw [HM.out]; unfold bthB; rw [hok, hok2]; rfl
        by_cases hn : n = n2
        · have e1 : (n != n2) = false := by simp [hn]
          obtain rfl : M = true := by rw [hMe]; exact decide_eq_true hn
          clear hn hMe hok hok2 HM
          go_wp2_with fail
          go_meet
          exact ⟨rfl, K2, hz2⟩
        · have e1 : (n != n2) = true := by simp [hn]
          obtain rfl : M = false := by rw [hMe]; exact decide_eq_false hn
          clear hn hMe hok hok2 HM
          go_wp2_with fail
          go_meet
          exact ⟨rfl, K2, hz2⟩
  case rest =>
    obtain ⟨rfl, K1, hz1⟩ := hcut
    obtain ⟨w1, rfl⟩ : ∃ z, z = wc := ⟨wc, rfl⟩
    clear K0 hz0 hS hT
    cases M with
    | false =>
      have HQ : Hid (bthQ n l n2 l2 = 0 ∧ bthL n l n2 l2 = []) := by
        show _ ∧ _
        unfold bthQ bthL
        rw [← HM.out]
        exact ⟨rfl, rfl⟩
      have y0 := K1.out.rx.cell 0
      have y1 := K1.out.rx.cell 1
      have f0 := K1.out.rx.free 0
      have f1 := K1.out.rx.free 1
      go_wp2
      refine bodyPost_ret (v := .tuple #[.agg #[.int .i64 0, .slice none 0 0], .bool false]) (by simp [results, Try.results14, go_sem, y0, y1]) rfl ⟨_, by rw [HQ.out.1], by rw [HQ.out.2]; exact .inl ⟨rfl, rfl⟩, (K1.out.low.setCell (by show w.heap.size ≤ w.heap.size + 1 + 1; omega) _).setCell (by show w.heap.size ≤ w.heap.size + 1 + 1; omega) _⟩
    | true =>
      obtain ⟨hk1, hk2, hnn⟩ := bth_parts HM.out.symm
      subst hnn
      have hs1 := skOk_iff.1 hk1
      have hs2 := skOk_iff.1 hk2
      have HQ : Hid (bthQ n l n l2 = n ∧ bthL n l n l2 = onL (inF (l ++ l2)) 512) := by
        show _ ∧ _
        unfold bthQ bthL
        rw [← HM.out, bth_on hs1 hs2]
        exact ⟨rfl, rfl⟩
      have hf1 := hs1.few
      have hf2 := hs2.few
      have HIn : Hid (∀ x ∈ l ++ l2, 0 ≤ x ∧ x < 512) := (show ∀ _, _ from fun x hx => by
        have := hs1.sz
        rcases List.mem_append.1 hx with hx | hx
        · have := hs1.inn x hx; omega
        · have := hs2.inn x hx; omega)
      have y1 := K1.out.sx.cell 1
      have z1 := K1.out.tx.cell 1
      have Kb : Hid (Ke w (w1.alloc (.cells #[.slice a l.length cap, .slice a2 l2.length cap2] 24)) n a cap l n a2 cap2 l2) := (show Hid _ from K1.out.kept ((Below.refl _ w1).alloc (Nat.le_refl _) _))
      have Xb := Bx.new w1 24 #[.slice a l.length cap, .slice a2 l2.length cap2]
      have hzb : (w1.alloc (.cells #[.slice a l.length cap, .slice a2 l2.length cap2] 24)).heap.size = w1.heap.size + 1 := by simp
      have hCat := catP w1.heap.size 2 [(.slice a l.length cap, l), (.slice a2 l2.length cap2, l2)] (w1.alloc (.cells #[.slice a l.length cap, .slice a2 l2.length cap2] 24)) rfl (by omega) (by omega)
        (fun j hj => by
          rw [Xb.cell]
          rcases (by simp at hj; omega : j = 0 ∨ j = 1) with rfl | rfl <;> rfl)
        (fun j hj => by
          rcases (by simp at hj; omega : j = 0 ∨ j = 1) with rfl | rfl
          · exact Kb.out.sl
          · exact Kb.out.tl)
        (by simp [catLN]; omega)
      rw [show catLN [(.slice a l.length cap, l), (.slice a2 l2.length cap2, l2)] [((.slice a l.length cap, l) : Value × List Int), (.slice a2 l2.length cap2, l2)].length = l ++ l2 from by simp [catLN]] at hCat
      have hRow := fun u W hW => implRow u (l ++ l2) W hW HIn.out
      have hlt : w.heap.size < w1.heap.size ∧ w.heap.size + 1 < w1.heap.size := ⟨by omega, by omega⟩
      have hq1 := hlt.1
      have hq2 := hlt.2
      generalize hwB : w1.alloc (.cells #[.slice a l.length cap, .slice a2 l2.length cap2] 24) = wB at Kb Xb hzb hCat
      clear hlt hs1 hs2 hk1 hk2 HM Xb
      go_wp2_with fail
      refine hCat.mono ?_
      rintro e w2 ⟨u2, rfl, ho2, hb2⟩
      go_wp2_with fail
      refine (hRow _ _ ho2.sls).mono ?_
      rintro e w3 ⟨rfl, hb3⟩
      have K3 : Hid (Ke w w3 n a cap l n a2 cap2 l2) := (show Hid _ from (Kb.out.kept hb2).kept hb3)
      have hz3 : w.heap.size + 3 ≤ w3.heap.size := by have := hb2.size; have := hb3.size; omega
      clear ho2 hb2 hb3 Kb hCat hRow hwB y1 z1 hzb
      generalize inF (l ++ l2) = f at HQ ⊢
      have X4 : Hid (Bx (w3.alloc (.cells (flgs fun _ => false) 61)) w3.heap.size 61 (flgs fun _ => false)) := (show Hid _ from Bx.new _ _ _)
      have X5 : Hid (Bx ((w3.alloc (.cells (flgs fun _ => false) 61)).setRow w3.heap.size (flgs f)) w3.heap.size 61 (flgs f)) := (show Hid _ from X4.out.row _)
      have K5 : Hid (Ke w ((w3.alloc (.cells (flgs fun _ => false) 61)).setRow w3.heap.size (flgs f)) n a cap l n a2 cap2 l2) := (show Hid _ from K3.out.kept (below_setRow ((Below.refl _ w3).alloc (Nat.le_refl _) _) (Nat.le_refl _) _))
      go_upto_region 4 with (first
        | (refine wpList_allocA rfl 61 rfl (some 6) rfl w3.heap.size rfl (flgs fun _ => false) zeroBR ?_)
        | (refine wpList_store_row rfl 61 (.tmp 6) (.tmp 29) rfl w3.heap.size (flgs f) rfl rfl 61 (flgs fun _ => false) X4.out (sizeBR _) (by rw [flgs_size, flgs_size]) (flgs_one _) ?_))
      have hNm := fun W => implNms f W
      obtain ⟨L, hL⟩ : ∃ L, onL f 512 = L := ⟨_, rfl⟩
      rw [hL] at HQ hNm
      clear hL
      have hz5 : ((w3.alloc (.cells (flgs fun _ => false) 61)).setRow w3.heap.size (flgs f)).heap.size = w3.heap.size + 1 := by simp
      generalize (w3.alloc (.cells (flgs fun _ => false) 61)).setRow w3.heap.size (flgs f) = w5 at X5 K5 hz5 ⊢
      clear X4 K3 K1
      generalize hA : Act.put _ _ _ = A
      obtain ⟨s, hs, s2, s4, s6⟩ : ∃ s : Nat → Value, A = frBt s (fun _ => undef) ∧ s 2 = .pointer (some ⟨w.heap.size, 0, none⟩) ∧ s 4 = .pointer (some ⟨w.heap.size + 1 + 1, 0, none⟩) ∧ s 6 = .pointer (some ⟨w3.heap.size, 0, none⟩) := by
        refine ⟨fun i => A.tmps.getD i undef, ?_, ?_, ?_, ?_⟩ <;> rw [← hA] <;> rfl
      rw [hs]
      clear hA hs
      refine region_heads 5 mixed (by decide) (by kernel_rfl) (by kernel_rfl) (by kernel_rfl) (by kernel_rfl) (frBt s) dBt (fun x => Below w5.heap.size w5 x) (GBt w w5 n f L) (fun i j hi hj h => dBt_ne hi hj h) ?put (fun _ => undef) rfl ?hS ?step ?done
      case put =>
        intro i o hi ho t v
        rcases (show i = 0 ∨ i = 1 ∨ i = 2 ∨ i = 3 ∨ i = 4 by omega) with rfl | rfl | rfl | rfl | rfl
        all_goals
          obtain rfl := Option.some.inj ho
          rfl
      case hS => exact ⟨rfl, rfl, rfl, Nat.le_refl _, fun _ _ => rfl⟩
      case step =>
        intro i o hi ho t x hS hdep K hK
        have K6 := K5.out.kept hS
        rcases (show i = 0 ∨ i = 1 ∨ i = 2 ∨ i = 3 ∨ i = 4 by omega) with rfl | rfl | rfl | rfl | rfl
        all_goals obtain rfl := Option.some.inj ho
        · have h2 := hK (.pointer (some ⟨w.heap.size, 0, none⟩)) x hS (fun j u hj hne h => h) rfl
          unfold frBt at h2 ⊢
          go_simp
          simpa [Act.put, s2, s4, s6] using h2
        · have e0 : t 30 = .pointer (some ⟨w.heap.size, 0, none⟩) := hdep { on := 0, ground := Ground.data } (by simp) rfl
          have c0 := K6.sx.cell 0
          have h2 := hK (.int .i64 n) x hS (fun j u hj hne h => h) rfl
          unfold frBt at h2 ⊢
          go_simp
          simpa [Act.put, e0, c0, s2, s4, s6] using h2
        · exact stepG (by rfl) (wp_load_row 61 (.tmp 6) rfl w3.heap.size s6 61 (flgs f) (0, 0) _ (X5.out.kept hS) Try.underlying61 rfl (sizeBR _) (hK _ x hS (fun j u hj hne h => h) rfl))
        · have e2 : t 32 = .agg (flgs f) := hdep { on := 2, ground := Ground.data } (by simp) rfl
          refine callG1 (by rfl) 45 (.tmp 32) _ rfl (.agg (flgs f)) e2 (Go.Proofs.enters_of Try.func45 (by kernel_rfl) rfl _) (fun v y => GBt w w5 n f L 3 y v ∧ Below x.heap.size x y) ((hNm x).mono ?_) ?_
          · rintro e y ⟨g, c, h0, h1, h2⟩
            exact ⟨_, h0, ⟨g, c, rfl, h1.low hS.size⟩, h2⟩
          · rintro v y ⟨h0, h1⟩
            exact hK v y (hS.trans (h1.mono hS.size)) (fun j u hj hne h => GBt.keep h1 j u hj h) h0
        · have e1 : t 31 = .int .i64 n := hdep { on := 1, ground := Ground.data } (by simp) rfl
          obtain ⟨g, c, e3, h3⟩ : GBt w w5 n f L 3 x (t 33) := hdep { on := 3, ground := Ground.data } (by simp) rfl
          have h2 := hK (.agg #[.int .i64 n, .slice (some ⟨g, 0, none⟩) L.length c]) x hS (fun j u hj hne h => h) ⟨g, c, rfl, h3⟩
          unfold frBt at h2 ⊢
          go_simp
          simpa [Act.put, e1, e3, s2, s4, s6] using h2
      case done =>
        intro t x hS hG
        obtain ⟨g, c, e4, h4⟩ : GBt w w5 n f L 4 x (t 34) := hG 4 (by decide)
        have K6 : Hid (Ke w x n a cap l n a2 cap2 l2) := (show Hid _ from K5.out.kept hS)
        have HO : Hid (HasN x w5.heap.size (.slice (some ⟨g, 0, none⟩) L.length c) L) := h4
        have hgb : w5.heap.size ≤ g := h4.from g rfl
        have y0 := K6.out.rx.cell 0
        have y1 := K6.out.rx.cell 1
        have f0 := K6.out.rx.free 0
        have f1 := K6.out.rx.free 1
        have HB : Hid (Below w.heap.size w ((x.setCell ⟨w.heap.size + 1 + 1, 0, none⟩ (.int .i64 n)).setCell ⟨w.heap.size + 1 + 1, 1, none⟩ (.slice (some ⟨g, 0, none⟩) L.length c))) := (show Hid _ from (K6.out.low.setCell (by show w.heap.size ≤ w.heap.size + 1 + 1; omega) _).setCell (by show w.heap.size ≤ w.heap.size + 1 + 1; omega) _)
        have HH : Hid (HasN ((x.setCell ⟨w.heap.size + 1 + 1, 0, none⟩ (.int .i64 n)).setCell ⟨w.heap.size + 1 + 1, 1, none⟩ (.slice (some ⟨g, 0, none⟩) L.length c)) w.heap.size (.slice (some ⟨g, 0, none⟩) L.length c) L) := (show Hid _ from ((h4.other _ _ (fun k hk => by simp [Value.ownBlock] at hk; show k ≠ w.heap.size + 1 + 1; omega)).other _ _ (fun k hk => by simp [Value.ownBlock] at hk; show k ≠ w.heap.size + 1 + 1; omega)).low (by omega))
        clear hG h4 HO K6 K5 X5
        show wpList Try.prog _ _ [_, _] _ x
        unfold frBt
        rw [e4, s4]
        go_wp2
        refine bodyPost_ret (v := .tuple #[.agg #[.int .i64 n, .slice (some ⟨g, 0, none⟩) L.length c], .bool true]) (by simp [results, Try.results14, go_sem, y0, y1]) rfl ⟨_, by rw [HQ.out.1], by rw [HQ.out.2]; exact HH.out, HB.out⟩
end Go.Proofs.Ytdoolnaekmffbaa

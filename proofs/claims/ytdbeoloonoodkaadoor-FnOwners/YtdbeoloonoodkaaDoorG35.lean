/-
  Drawn keys and servers.
  Drawn servers, and the draws of owners.
-/
import Derived.Test.YtdbeoloonoodkaaDoorG34
import Derived.Test.YtdbeoloonoodkaaDoorG12
import Derived.Test.YtdbeoloonoodkaaDoorG16
namespace Go.Proofs.YtdbeoloonoodkaaDoor
open Go.RowKit Go.Sort Ow Rw
set_option linter.unusedVariables false
set_option linter.unusedSimpArgs false

def frKy (b B : Nat) (t : Nat → Value) : Act := { tmps := #[.pointer (some ⟨b, 0, none⟩), undef, .string ⟨#[]⟩, t 3, t 4, t 5, t 6, t 7, t 8, t 9, t 10, undef], defers := [] }
def dKy (i : Nat) : Nat := if i = 0 then 3 else if i = 1 then 4 else if i = 2 then 5 else if i = 3 then 6 else if i = 4 then 7 else if i = 5 then 8 else if i = 6 then 9 else if i = 7 then 10 else i + 5000
def GKy (b B : Nat) (i : Nat) (x : World) (v : Value) : Prop := match i with
  | 0 => gTabS b [⟨#[104, 47, 97]⟩, ⟨#[104, 47, 98]⟩, ⟨#[107]⟩, ⟨#[]⟩, ⟨#[104, 47, 97, 47, 98, 63, 99]⟩] x v
  | 1 => v = .pointer (some ⟨b, 0, none⟩)
  | 2 => gNum 5 v
  | 3 => gPtS b [⟨#[104, 47, 97]⟩, ⟨#[104, 47, 98]⟩, ⟨#[107]⟩, ⟨#[]⟩, ⟨#[104, 47, 97, 47, 98, 63, 99]⟩] x v
  | 4 => gTxt 7 v
  | 5 => v = .pointer (some ⟨b, 0, none⟩)
  | 6 => gNum 50 v
  | 7 => gTxt 19 v
  | _ => True
theorem GKy.keep (b B : Nat) {x y : World} (hb : Beside b x y) (hB : b < B) (j : Nat) (v : Value) (hj : j < 8) (h : GKy b B j x v) : GKy b B j y v := by
  rcases (show j = 0 ∨ j = 1 ∨ j = 2 ∨ j = 3 ∨ j = 4 ∨ j = 5 ∨ j = 6 ∨ j = 7 by omega) with rfl | rfl | rfl | rfl | rfl | rfl | rfl | rfl
  · exact gTabS.keep h hb
  · exact h
  · exact h
  · exact gPtS.keep h hb
  · exact h
  · exact h
  · exact h
  · exact h
theorem dKy_ne {i j : Nat} (hi : i < 8) (hj : j < 8) (h : j ≠ i) : dKy j ≠ dKy i := by
  rcases (show i = 0 ∨ i = 1 ∨ i = 2 ∨ i = 3 ∨ i = 4 ∨ i = 5 ∨ i = 6 ∨ i = 7 by omega) with rfl | rfl | rfl | rfl | rfl | rfl | rfl | rfl <;> rcases (show j = 0 ∨ j = 1 ∨ j = 2 ∨ j = 3 ∨ j = 4 ∨ j = 5 ∨ j = 6 ∨ j = 7 by omega) with rfl | rfl | rfl | rfl | rfl | rfl | rfl | rfl <;> first | (exact absurd rfl h) | decide
set_option maxRecDepth 100000 in
set_option maxHeartbeats 2000000 in
theorem l13Key (b : Nat) (sa : Option Addr) (sl sc : Nat) (w : World) (hc : Cur w b sa sl sc) :
    Calls Tryd.prog 34 #[.pointer (some ⟨b, 0, Option.none⟩)] w fun e w' => (∃ s : ByteArray, e = .returned (.string s) ∧ s.size ≤ 26) ∧ Cur w' b sa sl sc ∧ Beside b w w' := by
  have hBb : b < w.heap.size := hc.2.2.1
  go_enter Tryd.func34, Tryd.ntmps34
  go_upto_region 1 with fail
  refine region_heads 8 mixed (by decide) (by kernel_rfl) (by kernel_rfl) (by kernel_rfl) (by kernel_rfl) (frKy b w.heap.size) dKy (SCur b sa sl sc w.drew) (GKy b w.heap.size) (fun i j hi hj h => dKy_ne hi hj h) ?put (fun _ => undef) rfl ?hS ?step ?done
  case put =>
    intro i o hi ho t v
    rcases (show i = 0 ∨ i = 1 ∨ i = 2 ∨ i = 3 ∨ i = 4 ∨ i = 5 ∨ i = 6 ∨ i = 7 by omega) with rfl | rfl | rfl | rfl | rfl | rfl | rfl | rfl
    all_goals
      obtain rfl := Option.some.inj ho
      rfl
  case step =>
    intro i o hi ho t x hS hdep K hK
    rcases (show i = 0 ∨ i = 1 ∨ i = 2 ∨ i = 3 ∨ i = 4 ∨ i = 5 ∨ i = 6 ∨ i = 7 by omega) with rfl | rfl | rfl | rfl | rfl | rfl | rfl | rfl
    all_goals obtain rfl := Option.some.inj ho
    · have HK : Hid (K ((frKy b w.heap.size t).put (some 3) (.slice (some ⟨x.heap.size, 0, none⟩) 5 5)) (x.alloc (.cells (List.map Value.string [⟨#[104, 47, 97]⟩, ⟨#[104, 47, 98]⟩, ⟨#[107]⟩, ⟨#[]⟩, ⟨#[104, 47, 97, 47, 98, 63, 99]⟩]).toArray 9))) := hK _ _ (hS.more _) (fun j u hj hne h => GKy.keep b w.heap.size (besAlloc b x _) hBb j u hj h) ⟨x.heap.size, rfl, newAt x _, (by have := hS.lt; omega)⟩
      unfold frKy
      go_simp
      exact HK.out
    · have HK : Hid (K ((frKy b w.heap.size t).put (some 4) (.pointer (some ⟨b, 0, none⟩))) x) := hK _ _ hS (fun j u hj hne h => h) rfl
      unfold frKy
      go_simp
      exact HK.out
    · have e : t 4 = .pointer (some ⟨b, 0, none⟩) := hdep { on := 1, ground := Ground.data } (by simp) rfl
      exact step_below rfl 5 (by decide) (by decide) (.tmp 4) _ rfl e hS (fun v y k1 k2 k3 => hK v y k1 (fun j u hj hne h => GKy.keep b w.heap.size k2 hBb j u hj h) k3)
    · have ga : gTabS b [⟨#[104, 47, 97]⟩, ⟨#[104, 47, 98]⟩, ⟨#[107]⟩, ⟨#[]⟩, ⟨#[104, 47, 97, 47, 98, 63, 99]⟩] x (t 3) := hdep { on := 0, ground := Ground.data } (by simp) rfl
      obtain ⟨g, ea, hT, hgb⟩ := ga
      have gc : gNum 5 (t 5) := hdep { on := 2, ground := Ground.data } (by simp) rfl
      obtain ⟨k, ec, hk⟩ := gc
      have hkI : (k : Int) < 5 := by omega
      have hk0 : ¬ (k : Int) < 0 := by omega
      have HK : Hid (K ((frKy b w.heap.size t).put (some 6) (.pointer (some ⟨g, k, none⟩))) x) := hK _ _ hS (fun j u hj hne h => h) ⟨g, k, rfl, hk, hT, hgb⟩
      have h2 := HK.out
      unfold frKy at h2 ⊢
      go_simp
      simpa [Act.put, ea, ec, hkI] using h2
    · have ga : gPtS b [⟨#[104, 47, 97]⟩, ⟨#[104, 47, 98]⟩, ⟨#[107]⟩, ⟨#[]⟩, ⟨#[104, 47, 97, 47, 98, 63, 99]⟩] x (t 6) := hdep { on := 3, ground := Ground.data } (by simp) rfl
      obtain ⟨g, k, ea, hk, hT, hgb⟩ := ga
      obtain ⟨z, hz0, c0⟩ : ∃ z : ByteArray, z.size ≤ 7 ∧ x.cell? ⟨g, k, none⟩ = some (.string z) := ⟨_, (by decide : ∀ s ∈ ([⟨#[104, 47, 97]⟩, ⟨#[104, 47, 98]⟩, ⟨#[107]⟩, ⟨#[]⟩, ⟨#[104, 47, 97, 47, 98, 63, 99]⟩] : List ByteArray), s.size ≤ 7) _ (List.getElem_mem hk), tabS_at hT hk⟩
      have HK : Hid (K ((frKy b w.heap.size t).put (some 7) (.string z)) x) := hK _ _ hS (fun j u hj hne h => h) ⟨z, rfl, hz0⟩
      have h2 := HK.out
      unfold frKy at h2 ⊢
      go_simp
      simpa [Act.put, ea, c0] using h2
    · have HK : Hid (K ((frKy b w.heap.size t).put (some 8) (.pointer (some ⟨b, 0, none⟩))) x) := hK _ _ hS (fun j u hj hne h => h) rfl
      unfold frKy
      go_simp
      exact HK.out
    · have e : t 8 = .pointer (some ⟨b, 0, none⟩) := hdep { on := 5, ground := Ground.data } (by simp) rfl
      exact step_below rfl 50 (by decide) (by decide) (.tmp 8) _ rfl e hS (fun v y k1 k2 k3 => hK v y k1 (fun j u hj hne h => GKy.keep b w.heap.size k2 hBb j u hj h) k3)
    · have gc : gNum 50 (t 9) := hdep { on := 6, ground := Ground.data } (by simp) rfl
      obtain ⟨k, ec, hk⟩ := gc
      refine callG1 (by rfl) 53 (.tmp 9) _ rfl (.int .i64 (k : Int)) ec (Go.Proofs.enters_of Tryd.func53 (by kernel_rfl) rfl _) (fun v y => gTxt 19 v ∧ Below x.heap.size x y) ((specIntZ k x (by omega)).mono ?_) ?_
      · rintro e y ⟨h0, h1⟩
        exact ⟨_, h0, ⟨itoS k, rfl, itoS_size (by omega)⟩, h1⟩
      · rintro v y ⟨h0, h1⟩
        have hbb : Beside b x y := (Beside.refl b x).below h1
        exact hK v y ⟨hS.1.kept h1 hS.lt, hS.2.trans hbb⟩ (fun j u hj hne h => GKy.keep b w.heap.size hbb hBb j u hj h) h0
  case hS => exact ⟨hc, Beside.refl _ _⟩
  case done =>
    intro t x hS hG
    have g4 : gTxt 7 (t 7) := hG 4 (by decide)
    have g7 : gTxt 19 (t 10) := hG 7 (by decide)
    obtain ⟨s1, e1, h1⟩ := g4
    obtain ⟨s2, e2, h2⟩ := g7
    have C1 : Hid (Cur x b sa sl sc) := hS.1
    have B1 : Hid (Beside b w x) := (show Hid _ from ⟨hS.2.1, hS.2.2.1, hS.2.2.2.1, hS.2.2.2.2.1, hS.2.2.2.2.2⟩)
    clear hG hS
    show wpList Tryd.prog _ _ [_, _] _ x
    unfold frKy
    rw [e1, e2]
    go_wp2
    go_ret
    exact ⟨⟨_, rfl, by rw [ByteArray.size_append]; omega⟩, C1.out, B1.out⟩
end Go.Proofs.YtdbeoloonoodkaaDoor
namespace Go.Proofs.YtdbeoloonoodkaaDoor
open Go.RowKit Go.Sort Ow Rw
set_option linter.unusedVariables false
set_option linter.unusedSimpArgs false

set_option maxRecDepth 100000 in
set_option maxHeartbeats 4000000 in
theorem l13Srv (b : Nat) (sa : Option Addr) (sl sc : Nat) (w : World) (hc : Cur w b sa sl sc) :
    Calls Tryd.prog 33 #[.pointer (some ⟨b, 0, Option.none⟩)] w fun e w' => (∃ u l, e = .returned u ∧ OwnsN w' w.heap.size u l ∧ l.length ≤ 10) ∧ Cur w' b sa sl sc ∧ Beside b w w' := by
  have hbz : b < w.heap.size := hc.2.2.1
  go_enter Tryd.func33, Tryd.ntmps33
  go_wp2_with fail
  refine (l1Below b sa sl sc 7 (by decide) (by decide) _ (hc.moreN _)).mono ?_
  rintro e w1 ⟨x, rfl, hx0, hx1, hc1, hb1⟩
  obtain ⟨x, rfl⟩ := Int.eq_ofNat_of_zero_le hx0
  have O1 : Hid (OwnsN w1 w.heap.size (.slice (some ⟨w.heap.size, 0, Option.none⟩) 0 0) []) := (OwnsE.born w).bsN hb1 hbz
  have B1 : Hid (Beside b w w1) := ((Beside.refl b w).moreN _).trans hb1
  have C1 : Hid (Cur w1 b sa sl sc) := hc1
  clear hb1 hc hc1
  go_wp2_with fail
  go_loopw [3, 4, 5] (fun u at' n wr => ∃ (k : Nat) (l : List Int) (g c : Nat) (z : Int), n = .int .i64 k ∧ k ≤ 6 ∧ at' = .int .i64 z ∧ -1 ≤ z ∧ z ≤ 100 - 10 * (k : Int) ∧ u = .slice (some ⟨g, 0, Option.none⟩) l.length c ∧ Hid (OwnsN wr w.heap.size (.slice (some ⟨g, 0, Option.none⟩) l.length c) l) ∧ Hid (Cur wr b sa sl sc) ∧ Hid (Beside b w wr) ∧ l.length + k ≤ 6) (fun _ _ n _ => (intOf n).toNat)
  case atStart => exact ⟨x, [], _, _, -1, rfl, by omega, rfl, by omega, by omega, rfl, O1, C1, B1, by simp <;> omega⟩
  case round =>
    clear O1 B1 C1
    obtain ⟨k, l, g, c, z, rfl, hk6, rfl, hz0, hz1, rfl, ho, hc, hb, hlk⟩ := hrel
    by_cases hk : 0 < k
    · have e1 : IntKind.i64.wrap (z + 1) = z + 1 := by rw [IntKind.wrap_i64]; omega
      go_wp2_with fail
      refine (l1Below b sa sl sc 9 (by decide) (by decide) _ hc.out).mono ?_
      rintro e w3 ⟨p, rfl, hp0, hp1, hc3, hb3⟩
      have e2 : IntKind.i64.wrap (z + 1 + p) = z + 1 + p := by rw [IntKind.wrap_i64]; omega
      have O3 : Hid (OwnsN w3 w.heap.size (.slice (some ⟨g, 0, Option.none⟩) l.length c) l) := ho.out.bsN hb3 hbz
      have B3 : Hid (Beside b w w3) := hb.out.trans hb3
      have C3 : Hid (Cur w3 b sa sl sc) := hc3
      have hz3 : w.heap.size ≤ w3.heap.size := B3.out.2.2.2.1
      clear hb3 hc3 ho hc hb
      go_wp2_with (at_builtin; refine wpList_pushN _ rfl (.tmp 18) (.tmp 20) rfl w.heap.size _ l (z + 1 + p) rfl O3.out rfl (by omega) hz3 ?_; intro v4 w4 ho4 hg4; obtain ⟨g4, c4, hv4⟩ := slN_of ho4 (by simp); subst hv4; have O4 : Hid (OwnsN w4 w.heap.size (.slice (some ⟨g4, 0, Option.none⟩) (l ++ [z + 1 + p]).length c4) (l ++ [z + 1 + p])) := ho4; have CB : Hid (Cur w4 b sa sl sc ∧ Beside b w w4) := drawn_pushN C3.out B3.out hbz O3.out hg4; clear ho4 hg4)
      go_roundw
      case rel => exact ⟨k - 1, l ++ [z + 1 + p], g4, c4, z + 1 + p, by go_num, by omega, rfl, by omega, by omega, by simp, O4, CB.out.1, CB.out.2, by simp; omega⟩
      case measure => simp [intOf]; omega
    · have hl6 : l.length ≤ 6 := by omega
      obtain rfl : k = 0 := by omega
      go_wp2_with fail
      refine (l1Once b sa sl sc 12 (by decide) (by decide) _ hc.out).mono ?_
      rintro e w3 ⟨tt, rfl, hc3, hb3⟩
      have O3 : Hid (OwnsN w3 w.heap.size (.slice (some ⟨g, 0, Option.none⟩) l.length c) l) := ho.out.bsN hb3 hbz
      have B3 : Hid (Beside b w w3) := hb.out.trans hb3
      have C3 : Hid (Cur w3 b sa sl sc) := hc3
      clear hb3 ho hc hb hc3
      cases tt with
      | false =>
        go_wp2
        go_ret
        exact ⟨⟨_, l, rfl, O3.out, by omega⟩, C3.out, B3.out⟩
      | true =>
        go_wp2_with fail
        refine (l1Below b sa sl sc 3 (by decide) (by decide) _ C3.out).mono ?_
        rintro e w4 ⟨y, rfl, hy0, hy1, hc4, hb4⟩
        obtain ⟨y, rfl⟩ := Int.eq_ofNat_of_zero_le hy0
        have O4 : Hid (OwnsN w4 w.heap.size (.slice (some ⟨g, 0, Option.none⟩) l.length c) l) := O3.out.bsN hb4 hbz
        have B4 : Hid (Beside b w w4) := B3.out.trans hb4
        have C4 : Hid (Cur w4 b sa sl sc) := hc4
        clear hb4 hc4 O3 B3 C3
        have hz4 : w.heap.size ≤ w4.heap.size := B4.out.2.2.2.1
        rcases (show y = 0 ∨ y = 1 ∨ y = 2 by omega) with rfl | rfl | rfl
        · go_wp2_with fail
          refine (l1Below b sa sl sc 4 (by decide) (by decide) _ (C4.out.moreN _)).mono ?_
          rintro e w5 ⟨q, rfl, hq0, hq1, hc5, hb5⟩
          obtain ⟨q, rfl⟩ := Int.eq_ofNat_of_zero_le hq0
          obtain ⟨p, hp, hp1, hp2⟩ := tabIN hb5 (by omega) q (by simp; omega) rfl
          have O5 : Hid (OwnsN w5 w.heap.size (.slice (some ⟨g, 0, Option.none⟩) l.length c) l) := (O4.out.alloc _).bsN hb5 hbz
          have B5 : Hid (Beside b w w5) := (B4.out.moreN _).trans hb5
          have C5 : Hid (Cur w5 b sa sl sc) := hc5
          have hz5 : w.heap.size ≤ w5.heap.size := B5.out.2.2.2.1
          clear hb5 hc5 O4 B4 C4
          go_wp2_with (at_builtin; refine wpList_pushN _ rfl (.tmp 28) (.tmp 34) rfl w.heap.size _ l p rfl O5.out rfl (by omega) hz5 ?_; intro v6 w6 ho6 hg6; have O6 : Hid (OwnsN w6 w.heap.size v6 (l ++ [p])) := ho6; have CB : Hid (Cur w6 b sa sl sc ∧ Beside b w w6) := drawn_pushN C5.out B5.out hbz O5.out hg6; clear ho6 hg6)
          go_ret
          exact ⟨⟨_, _, rfl, O6.out, by simp; omega⟩, CB.out⟩
        · go_wp2_with fail
          go_loopw [3, 4] (fun u at' wr => ∃ (l : List Int) (g c : Nat) (z : Int), at' = .int .i64 z ∧ -1 ≤ z ∧ z ≤ 1000 + (l.length : Int) ∧ u = .slice (some ⟨g, 0, Option.none⟩) l.length c ∧ Hid (OwnsN wr w.heap.size (.slice (some ⟨g, 0, Option.none⟩) l.length c) l) ∧ Hid (Cur wr b sa sl sc) ∧ Hid (Beside b w wr) ∧ l.length ≤ 10) (fun u _ _ => 10 - (match u with | .slice _ n _ => n | _ => 0))
          case atStart => exact ⟨l, g, c, z, rfl, hz0, by omega, rfl, O4, C4, B4, by omega⟩
          case round =>
            clear O4 B4 C4
            obtain ⟨l, g, c, z, rfl, hz0, hz1, rfl, ho, hc, hb, hl10⟩ := hrel
            go_wp2_with fail
            refine (l1Below b sa sl sc 2 (by decide) (by decide) _ hc.out).mono ?_
            rintro e w5 ⟨q, rfl, hq0, hq1, hc5, hb5⟩
            obtain ⟨q, rfl⟩ := Int.eq_ofNat_of_zero_le hq0
            have O5 : Hid (OwnsN w5 w.heap.size (.slice (some ⟨g, 0, Option.none⟩) l.length c) l) := ho.out.bsN hb5 hbz
            have B5 : Hid (Beside b w w5) := hb.out.trans hb5
            have C5 : Hid (Cur w5 b sa sl sc) := hc5
            have hz5 : w.heap.size ≤ w5.heap.size := B5.out.2.2.2.1
            have e3 : IntKind.i64.wrap (9 + (q : Int)) = 9 + (q : Int) := by rw [IntKind.wrap_i64]; omega
            have e4 : IntKind.i64.wrap (l.length : Int) = (l.length : Int) := by rw [IntKind.wrap_i64]; omega
            have e5 : IntKind.i64.wrap (z + 1) = z + 1 := by rw [IntKind.wrap_i64]; omega
            clear hb5 hc5 ho hc hb
            by_cases hlt : l.length < 9 + q
            · have hlti : (l.length : Int) < 9 + (q : Int) := by omega
              go_wp2_with (at_builtin; refine wpList_pushN _ rfl (.tmp 46) (.tmp 48) rfl w.heap.size _ l (z + 1) rfl O5.out rfl (by omega) hz5 ?_; intro v6 w6 ho6 hg6; obtain ⟨g6, c6, hv6⟩ := slN_of ho6 (by simp); subst hv6; have O6 : Hid (OwnsN w6 w.heap.size (.slice (some ⟨g6, 0, Option.none⟩) (l ++ [z + 1]).length c6) (l ++ [z + 1])) := ho6; have CB : Hid (Cur w6 b sa sl sc ∧ Beside b w w6) := drawn_pushN C5.out B5.out hbz O5.out hg6; clear ho6 hg6)
              go_roundw
              case rel => exact ⟨l ++ [z + 1], g6, c6, z + 1, rfl, by omega, by simp; omega, by simp, O6, CB.out.1, CB.out.2, by simp; omega⟩
              case measure => simp; omega
            · have hlti : ¬ (l.length : Int) < 9 + (q : Int) := by omega
              go_wp2
              go_ret
              exact ⟨⟨_, l, rfl, O5.out, hl10⟩, C5.out, B5.out⟩
        · go_wp2
          go_ret
          have B5 := B4.out.moreN (.cells #[] 2)
          have C5 := C4.out.moreN (.cells #[] 2)
          exact ⟨⟨_, [], rfl, (OwnsE.born w4).low hz4, by simp⟩, C5, B5⟩
end Go.Proofs.YtdbeoloonoodkaaDoor

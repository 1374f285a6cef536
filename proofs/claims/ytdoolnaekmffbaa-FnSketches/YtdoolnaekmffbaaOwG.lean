/-
  Drawn keys and servers.
-/
import Derived.Test.YtdoolnaekmffbaaRgW
import Derived.Test.YtdoolnaekmffbaaOwD
import Derived.Test.YtdoolnaekmffbaaRomH
namespace Go.Proofs.Ytdoolnaekmffbaa
open Go.RowKit Go.Sort Ow Rw
set_option linter.unusedVariables false
set_option linter.unusedSimpArgs false

def frKy (b B : Nat) (t : Nat → Value) : Act := { tmps := #[.pointer (some ⟨b, 0, none⟩), undef, .string ⟨#[]⟩, t 3, t 4, t 5, t 6, t 7, t 8, t 9, t 10, undef], defers := [] }
def dKy (i : Nat) : Nat := if i = 0 then 3 else if i = 1 then 4 else if i = 2 then 5 else if i = 3 then 6 else if i = 4 then 7 else if i = 5 then 8 else if i = 6 then 9 else if i = 7 then 10 else i + 5000
def GKy (b B : Nat) (i : Nat) (x : World) (v : Value) : Prop := match i with
  | 0 => gTabS b [⟨#[104, 47, 97]⟩, ⟨#[104, 47, 98]⟩, ⟨#[107]⟩, ⟨#[]⟩, ⟨#[104, 47, 97, 47, 98, 63, 99]⟩] x v
  | 1 => v = .pointer (some ⟨b, 0, none⟩)
  | 2 => gNum 5 v
  | 3 => gPtS b [⟨#[104, 47, 97]⟩, ⟨#[104, 47, 98]⟩, ⟨#[107]⟩, ⟨#[]⟩, ⟨#[104, 47, 97, 47, 98, 63, 99]⟩] x v
  | 4 => gTxt 7 v
  | 5 => v = .pointer (some ⟨b, 0, none⟩)
  | 6 => gNum 50 v
  | 7 => gTxt 19 v
  | _ => True
theorem GKy.keep (b B : Nat) {x y : World} (hb : Beside b x y) (hB : b < B) (j : Nat) (v : Value) (hj : j < 8) (h : GKy b B j x v) : GKy b B j y v := by
  rcases (show j = 0 ∨ j = 1 ∨ j = 2 ∨ j = 3 ∨ j = 4 ∨ j = 5 ∨ j = 6 ∨ j = 7 by omega) with rfl | rfl | rfl | rfl | rfl | rfl | rfl | rfl
  · exact gTabS.keep h hb
  · exact h
  · exact h
  · exact gPtS.keep h hb
  · exact h
  · exact h
  · exact h
  · exact h
theorem dKy_ne {i j : Nat} (hi : i < 8) (hj : j < 8) (h : j ≠ i) : dKy j ≠ dKy i := by
  rcases (show i = 0 ∨ i = 1 ∨ i = 2 ∨ i = 3 ∨ i = 4 ∨ i = 5 ∨ i = 6 ∨ i = 7 by omega) with rfl | rfl | rfl | rfl | rfl | rfl | rfl | rfl <;> rcases (show j = 0 ∨ j = 1 ∨ j = 2 ∨ j = 3 ∨ j = 4 ∨ j = 5 ∨ j = 6 ∨ j = 7 by omega) with rfl | rfl | rfl | rfl | rfl | rfl | rfl | rfl <;> first | (exact absurd rfl h) | decide
set_option maxRecDepth 100000 in
set_option maxHeartbeats 2000000 in
theorem l13Key (b : Nat) (sa : Option Addr) (sl sc : Nat) (w : World) (hc : Cur w b sa sl sc) :
    Calls Try.prog 40 #[.pointer (some ⟨b, 0, Option.none⟩)] w fun e w' => (∃ s : ByteArray, e = .returned (.string s) ∧ s.size ≤ 26) ∧ Cur w' b sa sl sc ∧ Beside b w w' := by
  have hBb : b < w.heap.size := hc.2.2.1
  go_enter Try.func40, Try.ntmps40
  go_upto_region 1 with fail
  refine region_heads 8 mixed (by decide) (by kernel_rfl) (by kernel_rfl) (by kernel_rfl) (by kernel_rfl) (frKy b w.heap.size) dKy (SCur b sa sl sc w.drew) (GKy b w.heap.size) (fun i j hi hj h => dKy_ne hi hj h) ?put (fun _ => undef) rfl ?hS ?step ?done
  case put =>
    intro i o hi ho t v
    rcases (show i = 0 ∨ i = 1 ∨ i = 2 ∨ i = 3 ∨ i = 4 ∨ i = 5 ∨ i = 6 ∨ i = 7 by omega) with rfl | rfl | rfl | rfl | rfl | rfl | rfl | rfl
    all_goals
      obtain rfl := Option.some.inj ho
      rfl
  case step =>
    intro i o hi ho t x hS hdep K hK
    rcases (show i = 0 ∨ i = 1 ∨ i = 2 ∨ i = 3 ∨ i = 4 ∨ i = 5 ∨ i = 6 ∨ i = 7 by omega) with rfl | rfl | rfl | rfl | rfl | rfl | rfl | rfl
    all_goals obtain rfl := Option.some.inj ho
    · have HK : Hid (K ((frKy b w.heap.size t).put (some 3) (.slice (some ⟨x.heap.size, 0, none⟩) 5 5)) (x.alloc (.cells (List.map Value.string [⟨#[104, 47, 97]⟩, ⟨#[104, 47, 98]⟩, ⟨#[107]⟩, ⟨#[]⟩, ⟨#[104, 47, 97, 47, 98, 63, 99]⟩]).toArray 9))) := hK _ _ (hS.more _) (fun j u hj hne h => GKy.keep b w.heap.size (besAlloc b x _) hBb j u hj h) ⟨x.heap.size, rfl, newAt x _, (by have := hS.lt; omega)⟩
      unfold frKy
      go_simp
      exact HK.out
    · have HK : Hid (K ((frKy b w.heap.size t).put (some 4) (.pointer (some ⟨b, 0, none⟩))) x) := hK _ _ hS (fun j u hj hne h => h) rfl
      unfold frKy
      go_simp
      exact HK.out
    · have e : t 4 = .pointer (some ⟨b, 0, none⟩) := hdep { on := 1, ground := Ground.data } (by simp) rfl
      exact step_below rfl 5 (by decide) (by decide) (.tmp 4) _ rfl e hS (fun v y k1 k2 k3 => hK v y k1 (fun j u hj hne h => GKy.keep b w.heap.size k2 hBb j u hj h) k3)
    · have ga : gTabS b [⟨#[104, 47, 97]⟩, ⟨#[104, 47, 98]⟩, ⟨#[107]⟩, ⟨#[]⟩, ⟨#[104, 47, 97, 47, 98, 63, 99]⟩] x (t 3) := hdep { on := 0, ground := Ground.data } (by simp) rfl
      obtain ⟨g, ea, hT, hgb⟩ := ga
      have gc : gNum 5 (t 5) := hdep { on := 2, ground := Ground.data } (by simp) rfl
      obtain ⟨k, ec, hk⟩ := gc
      have hkI : (k : Int) < 5 := by omega
      have hk0 : ¬ (k : Int) < 0 := by omega
      have HK : Hid (K ((frKy b w.heap.size t).put (some 6) (.pointer (some ⟨g, k, none⟩))) x) := hK _ _ hS (fun j u hj hne h => h) ⟨g, k, rfl, hk, hT, hgb⟩
      have h2 := HK.out
      unfold frKy at h2 ⊢
      go_simp
      simpa [Act.put, ea, ec, hkI] using h2
    · have ga : gPtS b [⟨#[104, 47, 97]⟩, ⟨#[104, 47, 98]⟩, ⟨#[107]⟩, ⟨#[]⟩, ⟨#[104, 47, 97, 47, 98, 63, 99]⟩] x (t 6) := hdep { on := 3, ground := Ground.data } (by simp) rfl
      obtain ⟨g, k, ea, hk, hT, hgb⟩ := ga
      obtain ⟨z, hz0, c0⟩ : ∃ z : ByteArray, z.size ≤ 7 ∧ x.cell? ⟨g, k, none⟩ = some (.string z) := ⟨_, (by decide : ∀ s ∈ ([⟨#[104, 47, 97]⟩, ⟨#[104, 47, 98]⟩, ⟨#[107]⟩, ⟨#[]⟩, ⟨#[104, 47, 97, 47, 98, 63, 99]⟩] : List ByteArray), s.size ≤ 7) _ (List.getElem_mem hk), tabS_at hT hk⟩
      have HK : Hid (K ((frKy b w.heap.size t).put (some 7) (.string z)) x) := hK _ _ hS (fun j u hj hne h => h) ⟨z, rfl, hz0⟩
      have h2 := HK.out
      unfold frKy at h2 ⊢
      go_simp
      simpa [Act.put, ea, c0] using h2
    · have HK : Hid (K ((frKy b w.heap.size t).put (some 8) (.pointer (some ⟨b, 0, none⟩))) x) := hK _ _ hS (fun j u hj hne h => h) rfl
      unfold frKy
      go_simp
      exact HK.out
    · have e : t 8 = .pointer (some ⟨b, 0, none⟩) := hdep { on := 5, ground := Ground.data } (by simp) rfl
      exact step_below rfl 50 (by decide) (by decide) (.tmp 8) _ rfl e hS (fun v y k1 k2 k3 => hK v y k1 (fun j u hj hne h => GKy.keep b w.heap.size k2 hBb j u hj h) k3)
    · have gc : gNum 50 (t 9) := hdep { on := 6, ground := Ground.data } (by simp) rfl
      obtain ⟨k, ec, hk⟩ := gc
      refine callG1 (by rfl) 56 (.tmp 9) _ rfl (.int .i64 (k : Int)) ec (Go.Proofs.enters_of Try.func56 (by kernel_rfl) rfl _) (fun v y => gTxt 19 v ∧ Below x.heap.size x y) ((specIntZ k x (by omega)).mono ?_) ?_
      · rintro e y ⟨h0, h1⟩
        exact ⟨_, h0, ⟨itoS k, rfl, itoS_size (by omega)⟩, h1⟩
      · rintro v y ⟨h0, h1⟩
        have hbb : Beside b x y := (Beside.refl b x).below h1
        exact hK v y ⟨hS.1.kept h1 hS.lt, hS.2.trans hbb⟩ (fun j u hj hne h => GKy.keep b w.heap.size hbb hBb j u hj h) h0
  case hS => exact ⟨hc, Beside.refl _ _⟩
  case done =>
    intro t x hS hG
    have g4 : gTxt 7 (t 7) := hG 4 (by decide)
    have g7 : gTxt 19 (t 10) := hG 7 (by decide)
    obtain ⟨s1, e1, h1⟩ := g4
    obtain ⟨s2, e2, h2⟩ := g7
    have C1 : Hid (Cur x b sa sl sc) := hS.1
    have B1 : Hid (Beside b w x) := (show Hid _ from ⟨hS.2.1, hS.2.2.1, hS.2.2.2.1, hS.2.2.2.2.1, hS.2.2.2.2.2⟩)
    clear hG hS
    show wpList Try.prog _ _ [_, _] _ x
    unfold frKy
    rw [e1, e2]
    go_wp2
    go_ret
    exact ⟨⟨_, rfl, by rw [ByteArray.size_append]; omega⟩, C1.out, B1.out⟩
end Go.Proofs.Ytdoolnaekmffbaa

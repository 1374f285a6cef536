/-
  Drawn responses for policy.
  A drawn moment for policy.
  Rows of fields that fit; objects that came in, later on.
  The specification's Renewed by its contract.
  Drawn objects for policy.
  A region that draws its order, by what holds whichever of its operations have been carried out.
  Plain facts: the library's Cut at a line end and at a colon; a line as the specification reads it, byte by byte.
-/
import Derived.Test.YtkaogmdhjcgcdaaGreatDoorH20
import Derived.Test.YtkaogmdhjcgcdaaGreatDoorH29
import Derived.Test.YtkaogmdhjcgcdaaGreatDoorH19
import Derived.Deep.RegionWith
import Derived.Test.YtkaogmdhjcgcdaaGreatDoorH15
import Derived.Test.YtkaogmdhjcgcdaaGreatDoorH11
import Derived.Test.YtkaogmdhjcgcdaaGreatDoorH01
import Derived.Shelf.Abstract
import Derived.Deep.DeepCutAuto
import Derived.Test.YtkaogmdhjcgcdaaGreatDoorH07
import Derived.Lib.IndexMore
namespace Go.Proofs.YtkaogmdhjcgcdaaGreatDoor
open Go.RowKit Go.Sort
set_option linter.unusedVariables false
set_option linter.unusedSimpArgs false

/-- A small response of few fields. -/
def FewR (r : Rs) : Prop := FewF 3 r.l ∧ (200 ≤ r.s ∧ r.s ≤ 500) ∧ r.b.size ≤ 3
def gRs (B : Nat) (x : World) (v : Value) : Prop := ∃ r u, v = rsV r u ∧ OwnsF x B u r.l ∧ FewR r
theorem gRs.keep {b B : Nat} {x y : World} {v : Value} (h : gRs B x v) (hb : Beside b x y) (hB : b < B) : gRs B y v := by obtain ⟨r, u, h0, h1, h2⟩ := h; exact ⟨r, u, h0, h1.beside10 hb hB, h2⟩
theorem Beside.grow10 {b B : Nat} {w x y : World} (h : Beside b w x) (hb : Below B x y) (hB : w.heap.size ≤ B) : Beside b w y :=
  ⟨hb.os.trans h.1, hb.tape.trans h.2.1, hb.output.trans h.2.2.1, Nat.le_trans h.2.2.2.1 hb.size, fun k hk hne => (hb.block k (by omega)).trans (h.2.2.2.2 k hk hne)⟩
def frR (b n B : Nat) (t : Nat → Value) : Act := { tmps := #[.pointer (some ⟨b, 0, none⟩), undef, .pointer (some ⟨n, 0, none⟩), t 3, t 4, t 5, t 6, t 7, t 8, t 9, t 10, t 11, undef, undef, undef, undef, undef, undef, undef], defers := [] }
def dR (i : Nat) : Nat := if i = 0 then 4 else if i = 1 then 5 else if i = 2 then 6 else if i = 3 then 7 else if i = 4 then 8 else if i = 5 then 9 else if i = 6 then 10 else if i = 7 then 11 else if i = 8 then 3 else i + 5000
def GR (b n B : Nat) (i : Nat) (x : World) (v : Value) : Prop := match i with
  | 0 => gTabI b [200, 200, 404, 204, 500] x v
  | 1 => v = .pointer (some ⟨b, 0, none⟩)
  | 2 => gNum 5 v
  | 3 => gPtI b [200, 200, 404, 204, 500] x v
  | 4 => gInt (200) (500) v
  | 5 => v = .pointer (some ⟨b, 0, none⟩)
  | 6 => gFl B 3 x v
  | 7 => gRs B x v
  | 8 => gBox b B #[.int .i64 0, .slice none 0 0, .string ⟨#[]⟩] 26 x v
  | _ => True
theorem GR.keep (b n B : Nat) {x y : World} (hb : Beside b x y) (hB : b < B) (j : Nat) (v : Value) (hj : j < 9) (h : GR b n B j x v) : GR b n B j y v := by
  rcases (show j = 0 ∨ j = 1 ∨ j = 2 ∨ j = 3 ∨ j = 4 ∨ j = 5 ∨ j = 6 ∨ j = 7 ∨ j = 8 by omega) with rfl | rfl | rfl | rfl | rfl | rfl | rfl | rfl | rfl
  · exact gTabI.keep h hb
  · exact h
  · exact h
  · exact gPtI.keep h hb
  · exact h
  · exact h
  · exact gFl.keep h hb hB
  · exact gRs.keep h hb hB
  · exact gBox.keep h hb
theorem dR_ne {i j : Nat} (hi : i < 9) (hj : j < 9) (h : j ≠ i) : dR j ≠ dR i := by
  rcases (show i = 0 ∨ i = 1 ∨ i = 2 ∨ i = 3 ∨ i = 4 ∨ i = 5 ∨ i = 6 ∨ i = 7 ∨ i = 8 by omega) with rfl | rfl | rfl | rfl | rfl | rfl | rfl | rfl | rfl <;> rcases (show j = 0 ∨ j = 1 ∨ j = 2 ∨ j = 3 ∨ j = 4 ∨ j = 5 ∨ j = 6 ∨ j = 7 ∨ j = 8 by omega) with rfl | rfl | rfl | rfl | rfl | rfl | rfl | rfl | rfl <;> first | (exact absurd rfl h) | decide
set_option maxRecDepth 100000 in
set_option maxHeartbeats 8000000 in
theorem l10DrawR (b : Nat) (sa : Option Addr) (sl sc : Nat) (w : World) (hc : Cur w b sa sl sc) :
    Calls Tryz.prog 67 #[.pointer (some ⟨b, 0, none⟩)] w fun e w' => (∃ v, e = .returned v ∧ gRs w.heap.size w' v) ∧ Cur w' b sa sl sc ∧ Beside b w w' := by
  have hbz : b < w.heap.size := hc.2.2.1
  obtain ⟨B, hB⟩ : ∃ B, B = w.heap.size + 1 := ⟨_, rfl⟩
  have hBb : b < B := by omega
  have hBx : ∀ x, SCur b sa sl sc (w.alloc (.cells #[.int .i64 0, .slice none 0 0, .string ⟨#[]⟩] 26)) x → B ≤ x.heap.size := fun x h => by have := h.size; simp at this; omega
  have hS0 : SCur b sa sl sc (w.alloc (.cells #[.int .i64 0, .slice none 0 0, .string ⟨#[]⟩] 26)) (w.alloc (.cells #[.int .i64 0, .slice none 0 0, .string ⟨#[]⟩] 26)).drew := ⟨(hc.more9 _), ⟨rfl, rfl, rfl, Nat.le_refl _, fun _ _ _ => rfl⟩⟩
  go_enter Tryz.func67, Tryz.ntmps67
  go_wp2
  refine region_heads 9 mixed (by decide) (by kernel_rfl) (by kernel_rfl) (by kernel_rfl) (by kernel_rfl) (frR b w.heap.size B) dR (SCur b sa sl sc (w.alloc (.cells #[.int .i64 0, .slice none 0 0, .string ⟨#[]⟩] 26))) (GR b w.heap.size B) (fun i j hi hj h => dR_ne hi hj h) ?put (fun _ => undef) rfl ?hS ?step ?done
  case put =>
    intro i o hi ho t v
    rcases (show i = 0 ∨ i = 1 ∨ i = 2 ∨ i = 3 ∨ i = 4 ∨ i = 5 ∨ i = 6 ∨ i = 7 ∨ i = 8 by omega) with rfl | rfl | rfl | rfl | rfl | rfl | rfl | rfl | rfl
    all_goals
      obtain rfl := Option.some.inj ho
      rfl
  case step =>
    intro i o hi ho t x hS hdep K hK
    rcases (show i = 0 ∨ i = 1 ∨ i = 2 ∨ i = 3 ∨ i = 4 ∨ i = 5 ∨ i = 6 ∨ i = 7 ∨ i = 8 by omega) with rfl | rfl | rfl | rfl | rfl | rfl | rfl | rfl | rfl
    all_goals obtain rfl := Option.some.inj ho
    · have HK : Hid (K ((frR b w.heap.size B t).put (some 4) (.slice (some ⟨x.heap.size, 0, none⟩) 5 5)) (x.alloc (.cells (List.map (Value.int .i64) [200, 200, 404, 204, 500]).toArray 2))) := hK _ _ (hS.more _) (fun j u hj hne h => GR.keep b w.heap.size B (besAlloc b x _) hBb j u hj h) ⟨x.heap.size, rfl, newAt x _, (by have := hS.lt; omega)⟩
      unfold frR
      go_simp
      exact HK.out
    · have HK : Hid (K ((frR b w.heap.size B t).put (some 5) (.pointer (some ⟨b, 0, none⟩))) x) := hK _ _ hS (fun j u hj hne h => h) rfl
      unfold frR
      go_simp
      exact HK.out
    · have e : t 5 = .pointer (some ⟨b, 0, none⟩) := hdep { on := 1, ground := Ground.data } (by simp) rfl
      exact step_below rfl 5 (by decide) (by decide) (.tmp 5) _ rfl e hS (fun v y k1 k2 k3 => hK v y k1 (fun j u hj hne h => GR.keep b w.heap.size B k2 hBb j u hj h) k3)
    · have ga : gTabI b [200, 200, 404, 204, 500] x (t 4) := hdep { on := 0, ground := Ground.data } (by simp) rfl
      obtain ⟨g, ea, hT, hgb⟩ := ga
      have gc : gNum 5 (t 6) := hdep { on := 2, ground := Ground.data } (by simp) rfl
      obtain ⟨k, ec, hk⟩ := gc
      have hkI : (k : Int) < 5 := by omega
      have hk0 : ¬ (k : Int) < 0 := by omega
      have HK : Hid (K ((frR b w.heap.size B t).put (some 7) (.pointer (some ⟨g, k, none⟩))) x) := hK _ _ hS (fun j u hj hne h => h) ⟨g, k, rfl, hk, hT, hgb⟩
      have h2 := HK.out
      unfold frR at h2 ⊢
      go_simp
      simpa [Act.put, ea, ec, hkI] using h2
    · have ga : gPtI b [200, 200, 404, 204, 500] x (t 7) := hdep { on := 3, ground := Ground.data } (by simp) rfl
      obtain ⟨g, k, ea, hk, hT, hgb⟩ := ga
      obtain ⟨z, hz0, hz1, c0⟩ : ∃ z : Int, 200 ≤ z ∧ z ≤ 500 ∧ x.cell? ⟨g, k, none⟩ = some (.int .i64 z) := ⟨_, ((by decide : ∀ s ∈ ([200, 200, 404, 204, 500] : List Int), (200) ≤ s ∧ s ≤ 500) _ (List.getElem_mem hk)).1, ((by decide : ∀ s ∈ ([200, 200, 404, 204, 500] : List Int), (200) ≤ s ∧ s ≤ 500) _ (List.getElem_mem hk)).2, tabI_at hT hk⟩
      have HK : Hid (K ((frR b w.heap.size B t).put (some 8) (.int .i64 z)) x) := hK _ _ hS (fun j u hj hne h => h) ⟨z, rfl, hz0, hz1⟩
      have h2 := HK.out
      unfold frR at h2 ⊢
      go_simp
      simpa [Act.put, ea, c0] using h2
    · have HK : Hid (K ((frR b w.heap.size B t).put (some 9) (.pointer (some ⟨b, 0, none⟩))) x) := hK _ _ hS (fun j u hj hne h => h) rfl
      unfold frR
      go_simp
      exact HK.out
    · have e : t 9 = .pointer (some ⟨b, 0, none⟩) := hdep { on := 5, ground := Ground.data } (by simp) rfl
      exact step_draw1 rfl 74 (.tmp 9) _ rfl e hS (Go.Proofs.enters_of Tryz.func74 (by kernel_rfl) rfl) (fun x v => gFl B 3 x v) ((l10DrawFields b sa sl sc x hS.1).mono fun e y ⟨⟨u, l, h0, h1, h2⟩, h3, h4⟩ => ⟨⟨u, h0, l, h1.low (hBx x hS), h2⟩, h3, h4⟩) (fun v y k1 k2 k3 => hK v y k1 (fun j u hj hne h => GR.keep b w.heap.size B k2 hBb j u hj h) k3)
    · have ga : gInt 200 500 (t 8) := hdep { on := 4, ground := Ground.data } (by simp) rfl
      obtain ⟨z, ea, hz0, hz1⟩ := ga
      have gc : gFl B 3 x (t 10) := hdep { on := 6, ground := Ground.data } (by simp) rfl
      obtain ⟨l, ho, hl⟩ := gc
      obtain ⟨A5, cap5, ec, _⟩ := ho.form
      rw [ec] at ho
      have HK : Hid (K ((frR b w.heap.size B t).put (some 11) (.agg #[.int .i64 z, .slice A5 l.length cap5, .string ⟨#[]⟩])) x) := hK _ _ hS (fun j u hj hne h => h) ⟨⟨z, l, ⟨#[]⟩⟩, .slice A5 l.length cap5, rfl, ho, hl, ⟨hz0, hz1⟩, Nat.zero_le _⟩
      have h2 := HK.out
      unfold frR at h2 ⊢
      go_simp
      simpa [Act.put, ea, ec] using h2
    · have HK : Hid (K ((frR b w.heap.size B t).put (some 3) (.pointer (some ⟨x.heap.size, 0, none⟩))) (x.alloc (.cells #[.int .i64 0, .slice none 0 0, .string ⟨#[]⟩] 26))) := hK _ _ (hS.more _) (fun j u hj hne h => GR.keep b w.heap.size B (besAlloc b x _) hBb j u hj h) ⟨x.heap.size, rfl, newAt x _, (by have := hS.lt; omega), hBx x hS⟩
      unfold frR
      go_simp
      exact HK.out
  case hS => exact hS0
  case done =>
    intro t x hS hG
    obtain ⟨r, u, e11, ho, hr⟩ : gRs B x (t 11) := hG 7 (by decide)
    obtain ⟨g, e3, hT, hgb, hgB⟩ : gBox b B #[.int .i64 0, .slice none 0 0, .string ⟨#[]⟩] 26 x (t 3) := hG 8 (by decide)
    obtain ⟨A5, cap5, rfl, _⟩ := ho.form
    have G0 : Hid (RsB x g noS (.slice none 0 0)) := ⟨rowCell hT, rowCell hT, rowCell hT, fun k => by simp [World.frozen?, hT], (Array.getElem?_eq_some_iff.1 hT).1⟩
    have N0 : Hid (RsB x w.heap.size noS (.slice none 0 0)) := (RsB.new w noS (.slice none 0 0) 26).same (hS.2.2.2.2.2 w.heap.size (by simp) (by omega)) hS.size
    have hT1 := heap_setCell_same x g 0 _ _ (.int .i64 r.s) hT
    have o1 := ho.besides10 (k := 0) hT (by decide) (.int .i64 r.s)
    have hT2 := heap_setCell_same _ g 1 _ _ (.slice A5 r.l.length cap5) hT1
    have o2 := o1.besides10 (k := 1) hT1 (by decide) (.slice A5 r.l.length cap5)
    have hT3 := heap_setCell_same _ g 2 _ _ (.string r.b) hT2
    have o3 := o2.besides10 (k := 2) hT2 (by decide) (.string r.b)
    have hbs : Below B x (((x.setCell ⟨g, 0, none⟩ (.int .i64 r.s)).setCell ⟨g, 1, none⟩ (.slice A5 r.l.length cap5)).setCell ⟨g, 2, none⟩ (.string r.b)) := (((Below.refl B x).setCell (p := ⟨g, 0, none⟩) hgB _).setCell (p := ⟨g, 1, none⟩) hgB _).setCell (p := ⟨g, 2, none⟩) hgB _
    have G1 : Hid (RsB (((x.setCell ⟨g, 0, none⟩ (.int .i64 r.s)).setCell ⟨g, 1, none⟩ (.slice A5 r.l.length cap5)).setCell ⟨g, 2, none⟩ (.string r.b)) g r (.slice A5 r.l.length cap5)) := G0.out.puts10 r _
    have N1 : Hid (RsB (((x.setCell ⟨g, 0, none⟩ (.int .i64 r.s)).setCell ⟨g, 1, none⟩ (.slice A5 r.l.length cap5)).setCell ⟨g, 2, none⟩ (.string r.b)) w.heap.size noS (.slice none 0 0)) := N0.out.same (hbs.block _ (by omega)) hbs.size
    have O1 : Hid (OwnsF (((x.setCell ⟨g, 0, none⟩ (.int .i64 r.s)).setCell ⟨g, 1, none⟩ (.slice A5 r.l.length cap5)).setCell ⟨g, 2, none⟩ (.string r.b)) B (.slice A5 r.l.length cap5) r.l) := o3
    have C1 : Hid (Cur (((x.setCell ⟨g, 0, none⟩ (.int .i64 r.s)).setCell ⟨g, 1, none⟩ (.slice A5 r.l.length cap5)).setCell ⟨g, 2, none⟩ (.string r.b)) b sa sl sc) := hS.1.kept hbs hBb
    have T1 : Hid ((((x.setCell ⟨g, 0, none⟩ (.int .i64 r.s)).setCell ⟨g, 1, none⟩ (.slice A5 r.l.length cap5)).setCell ⟨g, 2, none⟩ (.string r.b)).heap[g]? = some (.cells #[.int .i64 r.s, .slice A5 r.l.length cap5, .string r.b] 26 (0, 0))) := hT3
    have S1 : Hid (Beside b w (((x.setCell ⟨g, 0, none⟩ (.int .i64 r.s)).setCell ⟨g, 1, none⟩ (.slice A5 r.l.length cap5)).setCell ⟨g, 2, none⟩ (.string r.b))) := (((Beside.refl b w).more9 _).trans hS.2).grow10 hbs (by omega)
    obtain ⟨g0, g1, g2, gf, gh⟩ := G0.out
    simp only [noS] at g0 g1 g2
    clear hT1 hT2 hT3 o1 o2 o3 hbs G0 N0 hT ho hS hG hc
    unfold rsV at e11
    unfold frR
    rw [e3, e11]
    clear e3 e11
    go_upto_region 2 with fail
    generalize (((x.setCell ⟨g, 0, none⟩ (.int .i64 r.s)).setCell ⟨g, 1, none⟩ (.slice A5 r.l.length cap5)).setCell ⟨g, 2, none⟩ (.string r.b)) = y at G1 N1 O1 C1 T1 S1 ⊢
    clear g0 g1 g2 gf gh
    obtain ⟨g0, g1, g2, gf, gh⟩ := G1.out
    by_cases h204 : r.s = 204
    · have d204 : (r.s == 204) = true := by simpa using h204
      clear h204
      have N2 := N1
      obtain ⟨n0, n1, n2, nf, nh⟩ := N2.out
      simp only [noS] at n0 n1 n2
      have P1 : Hid (RsB (((y.setCell ⟨w.heap.size, 0, none⟩ (.int .i64 r.s)).setCell ⟨w.heap.size, 1, none⟩ (.slice A5 r.l.length cap5)).setCell ⟨w.heap.size, 2, none⟩ (.string r.b)) w.heap.size ⟨r.s, r.l, r.b⟩ (.slice A5 r.l.length cap5)) := N2.out.puts10 ⟨r.s, r.l, r.b⟩ _
      have BP : Hid (Below w.heap.size y (((y.setCell ⟨w.heap.size, 0, none⟩ (.int .i64 r.s)).setCell ⟨w.heap.size, 1, none⟩ (.slice A5 r.l.length cap5)).setCell ⟨w.heap.size, 2, none⟩ (.string r.b))) := (((Below.refl _ y).setCell (p := ⟨w.heap.size, 0, none⟩) (Nat.le_refl _) _).setCell (p := ⟨w.heap.size, 1, none⟩) (Nat.le_refl _) _).setCell (p := ⟨w.heap.size, 2, none⟩) (Nat.le_refl _) _
      have Q1 : Hid (OwnsF (((y.setCell ⟨w.heap.size, 0, none⟩ (.int .i64 r.s)).setCell ⟨w.heap.size, 1, none⟩ (.slice A5 r.l.length cap5)).setCell ⟨w.heap.size, 2, none⟩ (.string r.b)) B (.slice A5 r.l.length cap5) r.l) := ((O1.out.putlow10 (by omega) 0 _).putlow10 (by omega) 1 _).putlow10 (by omega) 2 _
      go_wp2
      have p0 := P1.out.c0
      have p1 := P1.out.c1
      have p2 := P1.out.c2
      simp only at p0 p1 p2
      refine bodyPost_ret (v := rsV ⟨r.s, r.l, r.b⟩ (.slice A5 r.l.length cap5)) (by unfold rsV; simp [results, Tryz.results67, go_sem, p0, p1, p2]) rfl ⟨⟨_, rfl, ⟨r.s, r.l, r.b⟩, _, rfl, Q1.out.low (by omega), hr⟩, C1.out.kept BP.out hbz, S1.out.grow10 BP.out (Nat.le_refl _)⟩
    · have d204 : (r.s == 204) = false := by simpa using h204
      have hgz : g < y.heap.size := gh
      go_wp2_with fail
      refine (l1DrawText b sa sl sc ⟨#[97, 98]⟩ 3 (by decide) (by decide) (by decide) y C1.out).mono ?_
      rintro e z ⟨tt, rfl, ht, hc2, hb2⟩
      have C2 : Hid (Cur z b sa sl sc) := hc2
      have G2 : Hid (RsB z g r (.slice A5 r.l.length cap5)) := G1.out.same (hb2.2.2.2.2 g hgz hgb) hb2.2.2.2.1
      have M2 : Hid (RsB z w.heap.size noS (.slice none 0 0)) := N1.out.same (hb2.2.2.2.2 _ N1.out.hi (by omega)) hb2.2.2.2.1
      have O2 : Hid (OwnsF z B (.slice A5 r.l.length cap5) r.l) := O1.out.beside10 hb2 hBb
      have S2 : Hid (Beside b w z) := S1.out.trans hb2
      have T2 : Hid (z.heap[g]? = some (.cells #[.int .i64 r.s, .slice A5 r.l.length cap5, .string r.b] 26 (0, 0))) := besAt hb2 T1.out hgb
      clear hb2 hc2 G1 N1 O1 C1 T1 S1 g0 g1 g2 gf gh
      have hbs : Below B z (z.setCell ⟨g, 2, none⟩ (.string tt)) := (Below.refl B z).setCell (p := ⟨g, 2, none⟩) hgB _
      have G3 : Hid (RsB (z.setCell ⟨g, 2, none⟩ (.string tt)) g ⟨r.s, r.l, tt⟩ (.slice A5 r.l.length cap5)) := G2.out.put2 tt
      have N2 : Hid (RsB (z.setCell ⟨g, 2, none⟩ (.string tt)) w.heap.size noS (.slice none 0 0)) := M2.out.same (hbs.block _ (by omega)) hbs.size
      have O3 : Hid (OwnsF (z.setCell ⟨g, 2, none⟩ (.string tt)) B (.slice A5 r.l.length cap5) r.l) := O2.out.besides10 (k := 2) T2.out (by decide) _
      have C3 : Hid (Cur (z.setCell ⟨g, 2, none⟩ (.string tt)) b sa sl sc) := C2.out.kept hbs hBb
      have S3 : Hid (Beside b w (z.setCell ⟨g, 2, none⟩ (.string tt))) := S2.out.grow10 hbs (by omega)
      obtain ⟨g0, g1, g2, gf, gh⟩ := G2.out
      clear hbs M2 O2 C2 S2 T2 G2
      go_upto_region 4 with fail
      generalize z.setCell ⟨g, 2, none⟩ (.string tt) = y2 at G3 N2 O3 C3 S3 ⊢
      clear g0 g1 g2 gf gh
      obtain ⟨g0, g1, g2, gf, gh⟩ := G3.out
      simp only at g0 g1 g2
      obtain ⟨n0, n1, n2, nf, nh⟩ := N2.out
      simp only [noS] at n0 n1 n2
      have P1 : Hid (RsB (((y2.setCell ⟨w.heap.size, 0, none⟩ (.int .i64 r.s)).setCell ⟨w.heap.size, 1, none⟩ (.slice A5 r.l.length cap5)).setCell ⟨w.heap.size, 2, none⟩ (.string tt)) w.heap.size ⟨r.s, r.l, tt⟩ (.slice A5 r.l.length cap5)) := N2.out.puts10 ⟨r.s, r.l, tt⟩ _
      have BP : Hid (Below w.heap.size y2 (((y2.setCell ⟨w.heap.size, 0, none⟩ (.int .i64 r.s)).setCell ⟨w.heap.size, 1, none⟩ (.slice A5 r.l.length cap5)).setCell ⟨w.heap.size, 2, none⟩ (.string tt))) := (((Below.refl _ y2).setCell (p := ⟨w.heap.size, 0, none⟩) (Nat.le_refl _) _).setCell (p := ⟨w.heap.size, 1, none⟩) (Nat.le_refl _) _).setCell (p := ⟨w.heap.size, 2, none⟩) (Nat.le_refl _) _
      have Q1 : Hid (OwnsF (((y2.setCell ⟨w.heap.size, 0, none⟩ (.int .i64 r.s)).setCell ⟨w.heap.size, 1, none⟩ (.slice A5 r.l.length cap5)).setCell ⟨w.heap.size, 2, none⟩ (.string tt)) B (.slice A5 r.l.length cap5) r.l) := ((O3.out.putlow10 (by omega) 0 _).putlow10 (by omega) 1 _).putlow10 (by omega) 2 _
      go_wp2
      have p0 := P1.out.c0
      have p1 := P1.out.c1
      have p2 := P1.out.c2
      simp only at p0 p1 p2
      refine bodyPost_ret (v := rsV ⟨r.s, r.l, tt⟩ (.slice A5 r.l.length cap5)) (by unfold rsV; simp [results, Tryz.results67, go_sem, p0, p1, p2]) rfl ⟨⟨_, rfl, ⟨r.s, r.l, tt⟩, _, rfl, Q1.out.low (by omega), ⟨hr.1, hr.2.1, ht⟩⟩, C3.out.kept BP.out hbz, S3.out.grow10 BP.out (Nat.le_refl _)⟩
end Go.Proofs.YtkaogmdhjcgcdaaGreatDoor
namespace Go.Proofs.YtkaogmdhjcgcdaaGreatDoor
open Go.RowKit Go.Sort
set_option linter.unusedVariables false

theorem ObB.beside {w w' : World} {b c : Nat} {o : Ob} {v u : Value} (h : ObB w c o v u) (hb : Beside b w w') (hne : c ≠ b) : ObB w' c o v u := by
  have e : w'.heap[c]? = w.heap[c]? := hb.2.2.2.2 c h.hi hne
  have k : ∀ k, w'.cell? ⟨c, k, none⟩ = w.cell? ⟨c, k, none⟩ := fun k => World.cell?_of_block (a := ⟨c, k, none⟩) e
  exact ⟨(k 0).trans h.c0, (k 1).trans h.c1, (k 2).trans h.c2, (k 3).trans h.c3, (k 4).trans h.c4, (k 5).trans h.c5, (k 6).trans h.c6, (k 7).trans h.c7, fun j => (World.frozen?_of_block (a := ⟨c, j, none⟩) e).trans (h.fz j), Nat.lt_of_lt_of_le h.hi hb.2.2.2.1⟩
theorem tab5 (g : Int) (y : Nat) (hy : y < 5) (hg0 : 0 ≤ g) (hg1 : g ≤ 253402300800) : ∃ z : Int, (∀ W : World, (W.alloc (.cells #[.int .i64 (-1), .int .i64 (g - 1), .int .i64 253402300799, .int .i64 253402300800, .int .i64 0] 2)).cell? ⟨W.heap.size, y, none⟩ = some (.int .i64 z)) ∧ -1 ≤ z ∧ z ≤ 253402300860 ∧ (#[.int .i64 (-1), .int .i64 (g - 1), .int .i64 253402300799, .int .i64 253402300800, .int .i64 0] : Array Value)[y]? = some (.int .i64 z) ∧ ([.int .i64 (-1), .int .i64 (g - 1), .int .i64 253402300799, .int .i64 253402300800, .int .i64 0] : List Value)[y]? = some (.int .i64 z) := by
  rcases (show y = 0 ∨ y = 1 ∨ y = 2 ∨ y = 3 ∨ y = 4 by omega) with rfl | rfl | rfl | rfl | rfl
  · exact ⟨-1, fun W => World.cell?_alloc_mark _ _ _ _ _, by omega, by omega, rfl, rfl⟩
  · exact ⟨g - 1, fun W => World.cell?_alloc_mark _ _ _ _ _, by omega, by omega, rfl, rfl⟩
  · exact ⟨253402300799, fun W => World.cell?_alloc_mark _ _ _ _ _, by omega, by omega, rfl, rfl⟩
  · exact ⟨253402300800, fun W => World.cell?_alloc_mark _ _ _ _ _, by omega, by omega, rfl, rfl⟩
  · exact ⟨0, fun W => World.cell?_alloc_mark _ _ _ _ _, by omega, by omega, rfl, rfl⟩
set_option maxRecDepth 100000 in
set_option maxHeartbeats 4000000 in
theorem l10DrawNow (b : Nat) (sa : Option Addr) (sl sc : Nat) (o : Ob) (v u : Value) (w : World) (hc : Cur w b sa sl sc) (hg0 : 0 ≤ o.got) (hg1 : o.got ≤ 253402300800) :
    Calls Tryz.prog 44 #[.pointer (some ⟨b, 0, Option.none⟩), obV o v u] w fun e w' => (∃ z : Int, e = .returned (.int .i64 z) ∧ -1 ≤ z ∧ z ≤ 253402300860) ∧ Cur w' b sa sl sc ∧ Beside b w w' := by
  have hbz : b < w.heap.size := hc.2.2.1
  have Q0 : Hid (ObB (w.alloc (.cells #[.string o.k, v, .int .i64 o.r.s, u, .string o.r.b, .int .i64 o.asked, .int .i64 o.got, .int .i64 o.ep] 28)) w.heap.size o v u) := ObB.new w o _ _ _
  have C0 : Hid (Cur (w.alloc (.cells #[.string o.k, v, .int .i64 o.r.s, u, .string o.r.b, .int .i64 o.asked, .int .i64 o.got, .int .i64 o.ep] 28)) b sa sl sc) := hc.more9 _
  have B0 : Hid (Beside b w (w.alloc (.cells #[.string o.k, v, .int .i64 o.r.s, u, .string o.r.b, .int .i64 o.asked, .int .i64 o.got, .int .i64 o.ep] 28))) := (Beside.refl b w).more9 _
  have HT := fun y hy => tab5 o.got y hy hg0 hg1
  have e1 : IntKind.i64.wrap (o.got - 1) = o.got - 1 := by rw [IntKind.wrap_i64]; omega
  clear hc
  unfold obV
  go_enter Tryz.func44, Tryz.ntmps44
  go_wp2_with fail
  refine (l1Once b sa sl sc 10 (by decide) (by decide) _ C0.out).mono ?_
  rintro e w1 ⟨tt, rfl, hc1, hb1⟩
  have Q1 : Hid (ObB w1 w.heap.size o v u) := Q0.out.beside hb1 (by omega)
  have C1 : Hid (Cur w1 b sa sl sc) := hc1
  have B1 : Hid (Beside b w w1) := B0.out.trans hb1
  have C1d : Hid (Cur w1.drew b sa sl sc) := hc1
  have hbr : b < w1.heap.size := hc1.2.2.1
  clear hb1 hc1 Q0 C0 B0
  have q6 := Q1.out.c6
  cases tt with
  | true =>
    go_wp2
    go_region_with (first
      | (go_at_call 65; refine (l1Below b sa sl sc 5 (by decide) (by decide) w1.drew C1d.out).mono ?_; rintro e w2 ⟨y, rfl, hy0, hy1, hc2, hb2⟩; obtain ⟨y, rfl⟩ := Int.eq_ofNat_of_zero_le hy0; have hy4 : ¬ (y : Int) < 0 := (by omega); have hy5 : y < 5 := (by omega); have hy6 : ¬ 5 ≤ y := (by omega); have hy7 : ((y : Int)).toNat = y := (by omega); obtain ⟨z, hz, hz0, hz1, hzA, hzL⟩ := HT y (by omega); have hz2 := hz w2; have B2 : Hid (Beside b w w2) := B1.out.trans hb2; have C2 : Hid (Cur w2 b sa sl sc) := hc2; have p6 : w2.cell? ⟨w.heap.size, 6, none⟩ = some (.int .i64 o.got) := (Q1.out.beside (w' := w2) hb2 (by omega)).c6; clear hb2 hc2)
      | (go_at_call 65; refine (l1Below b sa sl sc 5 (by decide) (by decide) _ (C1d.out.more9 _)).mono ?_; rintro e w2 ⟨y, rfl, hy0, hy1, hc2, hb2⟩; obtain ⟨y, rfl⟩ := Int.eq_ofNat_of_zero_le hy0; have hy4 : ¬ (y : Int) < 0 := (by omega); have hy5 : y < 5 := (by omega); have hy6 : ¬ 5 ≤ y := (by omega); have hy7 : ((y : Int)).toNat = y := (by omega); obtain ⟨z, hz, hz0, hz1, hzA, hzL⟩ := HT y (by omega); have hz2 : w2.cell? ⟨w1.heap.size, y, none⟩ = some (.int .i64 z) := besideCell hb2 (by show w1.heap.size ≠ b; omega) (hz w1.drew); have B2 : Hid (Beside b w w2) := (B1.out.more9 _).trans hb2; have C2 : Hid (Cur w2 b sa sl sc) := hc2; clear hb2 hc2))
    all_goals
      go_wp2
      go_ret
      first
        | exact ⟨⟨_, rfl, hz0, hz1⟩, C2.out, B2.out⟩
        | exact ⟨⟨_, rfl, hz0, hz1⟩, C2.out.more9 _, B2.out.more9 _⟩
  | false =>
    go_wp2
    go_region_with (first
      | (go_at_call 65; refine (l1Below b sa sl sc 60 (by decide) (by decide) w1.drew C1d.out).mono ?_; rintro e w2 ⟨y, rfl, hy0, hy1, hc2, hb2⟩; have B2 : Hid (Beside b w w2) := B1.out.trans hb2; have C2 : Hid (Cur w2 b sa sl sc) := hc2; have p6 : w2.cell? ⟨w.heap.size, 6, none⟩ = some (.int .i64 o.got) := (Q1.out.beside (w' := w2) hb2 (by omega)).c6; have e2 : IntKind.i64.wrap (o.got + y) = o.got + y := (by rw [IntKind.wrap_i64]; omega); clear hb2 hc2))
    all_goals
      go_wp2
      go_ret
      exact ⟨⟨_, rfl, by omega, by omega⟩, C2.out, B2.out⟩
end Go.Proofs.YtkaogmdhjcgcdaaGreatDoor
namespace Go.Proofs.YtkaogmdhjcgcdaaGreatDoor
open Go.RowKit Go.Sort
set_option linter.unusedVariables false

theorem OwnsF.solid10 {w : World} {B : Nat} {v : Value} {l : List Fl} (h : OwnsF w B v l) : Solid v := by
  rcases h.2 with ⟨h0, _⟩ | ⟨g, cap, cur, hv, _⟩
  · rw [h0]; intro n c e; injection e with _ _ e; exact e.symm
  · rw [hv]; intro n c e; injection e with e _ _; cases e
theorem OwnsF.fits10 {w : World} {B : Nat} {v : Value} {l : List Fl} (h : OwnsF w B v l) (h1 : szL l ≤ 1048576) (h2 : l.length ≤ 1048576) : Fits w v l := ⟨h.fls, h1, h2, h.solid10⟩
theorem RsGot.kept10 {w w' : World} {v : Value} {r : Rs} (h : RsGot w v r) (hb : Below w.heap.size w w') : RsGot w' v r := ⟨h.1.kept hb, h.2⟩
theorem ObGot.kept {w w' : World} {v u : Value} {o : Ob} (h : ObGot w v u o) (hb : Below w.heap.size w w') : ObGot w' v u o := ⟨h.1.kept hb, h.2.1, h.2.2.1, h.2.2.2.1.kept10 hb, h.2.2.2.2⟩
/-- The two rows of fields of an object. -/
def TwoF (w : World) (v u : Value) (o : Ob) : Prop := Fls w v o.l ∧ Fls w u o.r.l
theorem TwoF.kept {w w' : World} {v u : Value} {o : Ob} (h : TwoF w v u o) (hb : Below w.heap.size w w') : TwoF w' v u o := ⟨h.1.kept hb, h.2.kept hb⟩
end Go.Proofs.YtkaogmdhjcgcdaaGreatDoor
namespace Go.Proofs.YtkaogmdhjcgcdaaGreatDoor
open Go.RowKit Go.Sort Go.Maps
set_option linter.unusedVariables false
set_option linter.unusedSimpArgs false

theorem OwnsF.none10 (w : World) (B : Nat) : OwnsF w B (.slice none 0 0) [] := ⟨by simp [cellsF], .inl ⟨rfl, rfl⟩⟩
theorem OwnsF.putL10 {B g : Nat} {v : Value} {l : List Fl} : ∀ {w : World} (h : OwnsF w B v l) (hg : g < B) (vs : List Value) (i : Nat), OwnsF (putL w g vs i) B v l
  | w, h, hg, [], _ => h
  | w, h, hg, x :: vs, i => OwnsF.putL10 (h.putlow10 hg i x) hg vs (i + 1)
theorem low_put10 {B g k : Nat} {w w' : World} {x : Value} (h : Below B w w') (hg : B ≤ g) : Below B w (w'.setCell ⟨g, k, none⟩ x) := h.setCell (p := ⟨g, k, none⟩) hg x
theorem ObB.put210 {w : World} {b : Nat} {o : Ob} {v u : Value} (h : ObB w b o v u) (s : Int) : ObB (w.setCell ⟨b, 2, none⟩ (.int .i64 s)) b ⟨o.k, o.l, ⟨s, o.r.l, o.r.b⟩, o.asked, o.got, o.ep⟩ v u where
  c0 := by rw [World.cell?_setCell_other _ _ _ _ (by simp)]; exact h.c0
  c1 := by rw [World.cell?_setCell_other _ _ _ _ (by simp)]; exact h.c1
  c2 := World.cell?_setCell_same _ _ _ h.c2
  c3 := by rw [World.cell?_setCell_other _ _ _ _ (by simp)]; exact h.c3
  c4 := by rw [World.cell?_setCell_other _ _ _ _ (by simp)]; exact h.c4
  c5 := by rw [World.cell?_setCell_other _ _ _ _ (by simp)]; exact h.c5
  c6 := by rw [World.cell?_setCell_other _ _ _ _ (by simp)]; exact h.c6
  c7 := by rw [World.cell?_setCell_other _ _ _ _ (by simp)]; exact h.c7
  fz := fun k => by rw [World.frozen?_setCell]; exact h.fz k
  hi := by rw [World.size_setCell]; exact h.hi
theorem ObB.put310 {w : World} {b : Nat} {o : Ob} {v u : Value} (h : ObB w b o v u) (l : List Fl) (x : Value) : ObB (w.setCell ⟨b, 3, none⟩ x) b ⟨o.k, o.l, ⟨o.r.s, l, o.r.b⟩, o.asked, o.got, o.ep⟩ v x where
  c0 := by rw [World.cell?_setCell_other _ _ _ _ (by simp)]; exact h.c0
  c1 := by rw [World.cell?_setCell_other _ _ _ _ (by simp)]; exact h.c1
  c2 := by rw [World.cell?_setCell_other _ _ _ _ (by simp)]; exact h.c2
  c3 := World.cell?_setCell_same _ _ _ h.c3
  c4 := by rw [World.cell?_setCell_other _ _ _ _ (by simp)]; exact h.c4
  c5 := by rw [World.cell?_setCell_other _ _ _ _ (by simp)]; exact h.c5
  c6 := by rw [World.cell?_setCell_other _ _ _ _ (by simp)]; exact h.c6
  c7 := by rw [World.cell?_setCell_other _ _ _ _ (by simp)]; exact h.c7
  fz := fun k => by rw [World.frozen?_setCell]; exact h.fz k
  hi := by rw [World.size_setCell]; exact h.hi
theorem ObB.put410 {w : World} {b : Nat} {o : Ob} {v u : Value} (h : ObB w b o v u) (t : ByteArray) : ObB (w.setCell ⟨b, 4, none⟩ (.string t)) b ⟨o.k, o.l, ⟨o.r.s, o.r.l, t⟩, o.asked, o.got, o.ep⟩ v u where
  c0 := by rw [World.cell?_setCell_other _ _ _ _ (by simp)]; exact h.c0
  c1 := by rw [World.cell?_setCell_other _ _ _ _ (by simp)]; exact h.c1
  c2 := by rw [World.cell?_setCell_other _ _ _ _ (by simp)]; exact h.c2
  c3 := by rw [World.cell?_setCell_other _ _ _ _ (by simp)]; exact h.c3
  c4 := World.cell?_setCell_same _ _ _ h.c4
  c5 := by rw [World.cell?_setCell_other _ _ _ _ (by simp)]; exact h.c5
  c6 := by rw [World.cell?_setCell_other _ _ _ _ (by simp)]; exact h.c6
  c7 := by rw [World.cell?_setCell_other _ _ _ _ (by simp)]; exact h.c7
  fz := fun k => by rw [World.frozen?_setCell]; exact h.fz k
  hi := by rw [World.size_setCell]; exact h.hi
theorem ObB.put510 {w : World} {b : Nat} {o : Ob} {v u : Value} (h : ObB w b o v u) (n : Int) : ObB (w.setCell ⟨b, 5, none⟩ (.int .i64 n)) b ⟨o.k, o.l, o.r, n, o.got, o.ep⟩ v u where
  c0 := by rw [World.cell?_setCell_other _ _ _ _ (by simp)]; exact h.c0
  c1 := by rw [World.cell?_setCell_other _ _ _ _ (by simp)]; exact h.c1
  c2 := by rw [World.cell?_setCell_other _ _ _ _ (by simp)]; exact h.c2
  c3 := by rw [World.cell?_setCell_other _ _ _ _ (by simp)]; exact h.c3
  c4 := by rw [World.cell?_setCell_other _ _ _ _ (by simp)]; exact h.c4
  c5 := World.cell?_setCell_same _ _ _ h.c5
  c6 := by rw [World.cell?_setCell_other _ _ _ _ (by simp)]; exact h.c6
  c7 := by rw [World.cell?_setCell_other _ _ _ _ (by simp)]; exact h.c7
  fz := fun k => by rw [World.frozen?_setCell]; exact h.fz k
  hi := by rw [World.size_setCell]; exact h.hi
theorem ObB.put610 {w : World} {b : Nat} {o : Ob} {v u : Value} (h : ObB w b o v u) (n : Int) : ObB (w.setCell ⟨b, 6, none⟩ (.int .i64 n)) b ⟨o.k, o.l, o.r, o.asked, n, o.ep⟩ v u where
  c0 := by rw [World.cell?_setCell_other _ _ _ _ (by simp)]; exact h.c0
  c1 := by rw [World.cell?_setCell_other _ _ _ _ (by simp)]; exact h.c1
  c2 := by rw [World.cell?_setCell_other _ _ _ _ (by simp)]; exact h.c2
  c3 := by rw [World.cell?_setCell_other _ _ _ _ (by simp)]; exact h.c3
  c4 := by rw [World.cell?_setCell_other _ _ _ _ (by simp)]; exact h.c4
  c5 := by rw [World.cell?_setCell_other _ _ _ _ (by simp)]; exact h.c5
  c6 := World.cell?_setCell_same _ _ _ h.c6
  c7 := by rw [World.cell?_setCell_other _ _ _ _ (by simp)]; exact h.c7
  fz := fun k => by rw [World.frozen?_setCell]; exact h.fz k
  hi := by rw [World.size_setCell]; exact h.hi
theorem belowE10 {B : Nat} {w w1 w2 : World} {r : Option Nat} (hb : Below B w w1) (hg : w1.grownBy w2 r) (hB : B ≤ w1.heap.size) (hr : ∀ k, r = some k → B ≤ k) : Below B w w2 :=
  ⟨hg.os.trans hb.os, hg.tape.trans hb.tape, hg.output.trans hb.output, Nat.le_trans hb.size hg.size, fun k hk => (hg.block k (by omega) (fun e => by have := hr k e.symm; omega)).trans (hb.block k hk)⟩
theorem renV_no {o : Ob} {r : Rs} {a g : Int} (h : ¬ (obB o = true ∧ rsOk r = true ∧ r.s = 304 ∧ obB (renO o r a g) = true)) : renV o r a g = (noO, false) := by unfold renV; rw [if_neg h]
theorem renV_is {o : Ob} {r : Rs} {a g : Int} (h : obB o = true ∧ rsOk r = true ∧ r.s = 304 ∧ obB (renO o r a g) = true) : renV o r a g = (renO o r a g, true) := by unfold renV; rw [if_pos h]
def frN (o : Ob) (r : Rs) (asked got : Int) (va ua : Option Addr) (vc uc xc g q n0 n2 n3 n5 nr : Nat) (a4 a6 : Option Addr) (c4 c6 : Nat) (u11 u43 u44 u59 : Value) (k : Nat) (L : List Fl) (f : Fl) (t : Nat → Value) : Act := { tmps := #[.agg #[.string o.k, .slice va o.l.length vc, .int .i64 o.r.s, .slice ua o.r.l.length uc, .string o.r.b, .int .i64 o.asked, .int .i64 o.got, .int .i64 o.ep], .agg #[.int .i64 304, .slice (some ⟨g, q, none⟩) r.l.length xc, .string r.b], .int .i64 asked, .int .i64 got, .pointer (some ⟨n0, 0, none⟩), .pointer (some ⟨n0 + 1, 0, none⟩), undef, undef, .pointer (some ⟨n0 + 1 + 1, 0, none⟩), .bool false, .pointer (some ⟨n2, 0, none⟩), u11, .int .i64 (k : Int), .agg #[.string o.k, .slice va o.l.length vc, .int .i64 o.r.s, .slice ua o.r.l.length uc, .string o.r.b, .int .i64 o.asked, .int .i64 o.got, .int .i64 o.ep], .bool true, .bool false, .bool false, .agg #[.int .i64 304, .slice (some ⟨g, q, none⟩) r.l.length xc, .string r.b], .bool true, .bool false, .bool false, .bool false, .pointer (some ⟨n0 + 1, 0, none⟩), .int .i64 304, .bool false, .bool false, undef, .agg #[.string o.k, .slice va o.l.length vc, .int .i64 o.r.s, .slice ua o.r.l.length uc, .string o.r.b, .int .i64 o.asked, .int .i64 o.got, .int .i64 o.ep], .slice (some ⟨n3, 0, none⟩) 0 0, .pointer (some ⟨n0, 1, none⟩), .slice va o.l.length vc, .slice a4 o.l.length c4, .pointer (some ⟨n2, 1, none⟩), .slice (some ⟨n5, 0, none⟩) 0 0, .pointer (some ⟨n0, 2, none⟩), .pointer (some ⟨n0, 3, none⟩), .slice ua o.r.l.length uc, .slice a6 o.r.l.length c6, .int .i64 (k : Int), .pointer (some ⟨n0 + 1, 1, none⟩), .slice (some ⟨g, q, none⟩) r.l.length xc, .int .i64 (r.l.length : Int), .bool true, u43, u44, t 45, t 46, t 47, t 48, t 49, t 50, t 51, t 52, t 53, t 54, t 55, t 56, t 57, t 58, u59, undef, undef, undef, undef, undef, undef, undef, undef, undef, undef, undef, undef, undef, undef, undef, undef, undef, undef], defers := [] }
def dN (i : Nat) : Nat := if i = 0 then 45 else if i = 1 then 46 else if i = 2 then 47 else if i = 3 then 48 else if i = 4 then 49 else if i = 5 then 50 else if i = 6 then 51 else if i = 7 then 52 else if i = 8 then 53 else if i = 9 then 54 else if i = 10 then 55 else if i = 11 then 56 else if i = 12 then 57 else if i = 13 then 58 else i + 5000
def GN (o : Ob) (r : Rs) (asked got : Int) (va ua : Option Addr) (vc uc xc g q n0 n2 n3 n5 nr : Nat) (a4 a6 : Option Addr) (c4 c6 : Nat) (u11 u43 u44 u59 : Value) (k : Nat) (L : List Fl) (f : Fl) (i : Nat) (x : World) (v : Value) : Prop := match i with
  | 0 => v = u11
  | 1 => v = (.pointer (some ⟨n0 + 1, 1, none⟩))
  | 2 => v = (.slice (some ⟨g, q, none⟩) r.l.length xc)
  | 3 => v = (.int .i64 (k : Int))
  | 4 => v = (.pointer (some ⟨g, q + k * 2, none⟩))
  | 5 => v = (.pointer (some ⟨g, q + k * 2, none⟩))
  | 6 => v = (.string f.1)
  | 7 => OwnsF x nr v (wo L f.1)
  | 8 => v = (.pointer (some ⟨n0 + 1, 1, none⟩))
  | 9 => v = (.slice (some ⟨g, q, none⟩) r.l.length xc)
  | 10 => v = (.int .i64 (k : Int))
  | 11 => v = (.pointer (some ⟨g, q + k * 2, none⟩))
  | 12 => v = (.agg #[.string f.1, .string f.2])
  | 13 => ∃ gg, v = .slice (some ⟨gg, 0, none⟩) 1 1 ∧ x.heap[gg]? = some (.cells #[.string f.1, .string f.2] 105 (0, 0))
  | _ => True
theorem GN.keep (o : Ob) (r : Rs) (asked got : Int) (va ua : Option Addr) (vc uc xc g q n0 n2 n3 n5 nr : Nat) (a4 a6 : Option Addr) (c4 c6 : Nat) (u11 u43 u44 u59 : Value) (k : Nat) (L : List Fl) (f : Fl) {x y : World} (hb : Below x.heap.size x y) (j : Nat) (v : Value) (hj : j < 14) (h : GN o r asked got va ua vc uc xc g q n0 n2 n3 n5 nr a4 a6 c4 c6 u11 u43 u44 u59 k L f j x v) : GN o r asked got va ua vc uc xc g q n0 n2 n3 n5 nr a4 a6 c4 c6 u11 u43 u44 u59 k L f j y v := by
  rcases (show j = 0 ∨ j = 1 ∨ j = 2 ∨ j = 3 ∨ j = 4 ∨ j = 5 ∨ j = 6 ∨ j = 7 ∨ j = 8 ∨ j = 9 ∨ j = 10 ∨ j = 11 ∨ j = 12 ∨ j = 13 by omega) with rfl | rfl | rfl | rfl | rfl | rfl | rfl | rfl | rfl | rfl | rfl | rfl | rfl | rfl
  · exact h
  · exact h
  · exact h
  · exact h
  · exact h
  · exact h
  · exact h
  · exact OwnsF.kept h hb
  · exact h
  · exact h
  · exact h
  · exact h
  · exact h
  · obtain ⟨gg, h1, h2⟩ := h; exact ⟨gg, h1, (hb.block gg (Array.getElem?_eq_some_iff.1 h2).1).trans h2⟩
theorem dN_ne {i j : Nat} (hi : i < 14) (hj : j < 14) (h : j ≠ i) : dN j ≠ dN i := by
  rcases (show i = 0 ∨ i = 1 ∨ i = 2 ∨ i = 3 ∨ i = 4 ∨ i = 5 ∨ i = 6 ∨ i = 7 ∨ i = 8 ∨ i = 9 ∨ i = 10 ∨ i = 11 ∨ i = 12 ∨ i = 13 by omega) with rfl | rfl | rfl | rfl | rfl | rfl | rfl | rfl | rfl | rfl | rfl | rfl | rfl | rfl <;> rcases (show j = 0 ∨ j = 1 ∨ j = 2 ∨ j = 3 ∨ j = 4 ∨ j = 5 ∨ j = 6 ∨ j = 7 ∨ j = 8 ∨ j = 9 ∨ j = 10 ∨ j = 11 ∨ j = 12 ∨ j = 13 by omega) with rfl | rfl | rfl | rfl | rfl | rfl | rfl | rfl | rfl | rfl | rfl | rfl | rfl | rfl <;> first | (exact absurd rfl h) | decide
set_option maxRecDepth 100000 in
set_option maxHeartbeats 8000000 in
theorem specRen (o : Ob) (v u : Value) (r : Rs) (x : Value) (asked got : Int) (w : World) (h : ObIn w v u o) (hr : RsIn w x r) :
    Calls Tryz.prog 28 #[obV o v u, rsV r x, .int .i64 asked, .int .i64 got] w fun e w' => ∃ v' u', e = .returned (.tuple #[obV (renV o r asked got).1 v' u', .bool (renV o r asked got).2]) ∧ OwnsF w' w.heap.size v' (renV o r asked got).1.l ∧ OwnsF w' w.heap.size u' (renV o r asked got).1.r.l ∧ (∀ g, v'.ownBlock = some g → u'.ownBlock ≠ some g) ∧ Below w.heap.size w w' := by
  have HN : Hid (¬ (obB o = true ∧ rsOk r = true ∧ r.s = 304 ∧ obB (renO o r asked got) = true) → renV o r asked got = (noO, false)) := renV_no
  have HY : Hid (obB o = true ∧ rsOk r = true ∧ r.s = 304 ∧ obB (renO o r asked got) = true → renV o r asked got = (renO o r asked got, true)) := renV_is
  generalize renV o r asked got = R at HN HY ⊢
  have j1 := fun W hW => specObOk o v u W hW
  have j2 := fun W hW => specRsOk r x W hW
  have K1 : Hid (obB o = true → keyO o.k = true ∧ fldsOk o.l = true ∧ rsOk o.r = true ∧ momB o.asked = true ∧ momB o.got = true) := obB_all
  have K2 : Hid (rsOk r = true → fldsOk r.l = true) := rsOk_flds
  have K3 : Hid (rsOk o.r = true → fldsOk o.r.l = true) := rsOk_flds
  obtain ⟨va, vc, rfl⟩ := h.1.form
  obtain ⟨ua, uc, rfl⟩ := h.2.1.1.form
  obtain ⟨xa, xc, rfl⟩ := hr.1.form
  have Q0 : Hid (ObB (((w.alloc (.cells #[.string o.k, .slice va o.l.length vc, .int .i64 o.r.s, .slice ua o.r.l.length uc, .string o.r.b, .int .i64 o.asked, .int .i64 o.got, .int .i64 o.ep] 28)).alloc (.cells #[.int .i64 r.s, .slice xa r.l.length xc, .string r.b] 26)).alloc (.cells #[.string ⟨#[]⟩, .slice none 0 0, .int .i64 0, .slice none 0 0, .string ⟨#[]⟩, .int .i64 0, .int .i64 0, .int .i64 0] 28)) w.heap.size o (.slice va o.l.length vc) (.slice ua o.r.l.length uc)) := ((ObB.new w o _ _ _).alloc _).alloc _
  have R0 : Hid (RsB (((w.alloc (.cells #[.string o.k, .slice va o.l.length vc, .int .i64 o.r.s, .slice ua o.r.l.length uc, .string o.r.b, .int .i64 o.asked, .int .i64 o.got, .int .i64 o.ep] 28)).alloc (.cells #[.int .i64 r.s, .slice xa r.l.length xc, .string r.b] 26)).alloc (.cells #[.string ⟨#[]⟩, .slice none 0 0, .int .i64 0, .slice none 0 0, .string ⟨#[]⟩, .int .i64 0, .int .i64 0, .int .i64 0] 28)) (w.heap.size + 1) r (.slice xa r.l.length xc)) := by
    have := (RsB.new (w.alloc (.cells #[.string o.k, .slice va o.l.length vc, .int .i64 o.r.s, .slice ua o.r.l.length uc, .string o.r.b, .int .i64 o.asked, .int .i64 o.got, .int .i64 o.ep] 28)) r (.slice xa r.l.length xc) 26).alloc (.cells #[.string ⟨#[]⟩, .slice none 0 0, .int .i64 0, .slice none 0 0, .string ⟨#[]⟩, .int .i64 0, .int .i64 0, .int .i64 0] 28)
    simp only [World.size_alloc] at this
    exact this
  have Z0 : Hid (ObB (((w.alloc (.cells #[.string o.k, .slice va o.l.length vc, .int .i64 o.r.s, .slice ua o.r.l.length uc, .string o.r.b, .int .i64 o.asked, .int .i64 o.got, .int .i64 o.ep] 28)).alloc (.cells #[.int .i64 r.s, .slice xa r.l.length xc, .string r.b] 26)).alloc (.cells #[.string ⟨#[]⟩, .slice none 0 0, .int .i64 0, .slice none 0 0, .string ⟨#[]⟩, .int .i64 0, .int .i64 0, .int .i64 0] 28)) (w.heap.size + 1 + 1) noO (.slice none 0 0) (.slice none 0 0)) := by
    have := ObB.new ((w.alloc (.cells #[.string o.k, .slice va o.l.length vc, .int .i64 o.r.s, .slice ua o.r.l.length uc, .string o.r.b, .int .i64 o.asked, .int .i64 o.got, .int .i64 o.ep] 28)).alloc (.cells #[.int .i64 r.s, .slice xa r.l.length xc, .string r.b] 26)) noO (.slice none 0 0) (.slice none 0 0) 28
    simp only [World.size_alloc] at this
    exact this
  have B0 : Hid (Below w.heap.size w (((w.alloc (.cells #[.string o.k, .slice va o.l.length vc, .int .i64 o.r.s, .slice ua o.r.l.length uc, .string o.r.b, .int .i64 o.asked, .int .i64 o.got, .int .i64 o.ep] 28)).alloc (.cells #[.int .i64 r.s, .slice xa r.l.length xc, .string r.b] 26)).alloc (.cells #[.string ⟨#[]⟩, .slice none 0 0, .int .i64 0, .slice none 0 0, .string ⟨#[]⟩, .int .i64 0, .int .i64 0, .int .i64 0] 28))) := (((Below.refl _ w).alloc (Nat.le_refl _) _).alloc (by simp) _).alloc (by simp; omega) _
  have I0 : Hid (ObIn (((w.alloc (.cells #[.string o.k, .slice va o.l.length vc, .int .i64 o.r.s, .slice ua o.r.l.length uc, .string o.r.b, .int .i64 o.asked, .int .i64 o.got, .int .i64 o.ep] 28)).alloc (.cells #[.int .i64 r.s, .slice xa r.l.length xc, .string r.b] 26)).alloc (.cells #[.string ⟨#[]⟩, .slice none 0 0, .int .i64 0, .slice none 0 0, .string ⟨#[]⟩, .int .i64 0, .int .i64 0, .int .i64 0] 28)) (.slice va o.l.length vc) (.slice ua o.r.l.length uc) o) := h.kept B0.out
  have J0 : Hid (RsIn (((w.alloc (.cells #[.string o.k, .slice va o.l.length vc, .int .i64 o.r.s, .slice ua o.r.l.length uc, .string o.r.b, .int .i64 o.asked, .int .i64 o.got, .int .i64 o.ep] 28)).alloc (.cells #[.int .i64 r.s, .slice xa r.l.length xc, .string r.b] 26)).alloc (.cells #[.string ⟨#[]⟩, .slice none 0 0, .int .i64 0, .slice none 0 0, .string ⟨#[]⟩, .int .i64 0, .int .i64 0, .int .i64 0] 28)) (.slice xa r.l.length xc) r) := hr.kept B0.out
  clear h hr
  generalize hB1 : obB o = b1 at HN HY j1 K1
  generalize hB2 : rsOk r = b2 at HN HY j2 K2
  clear hB1 hB2
  unfold obV rsV
  unfold obV at j1
  unfold rsV at j2
  go_enter Tryz.func28, Tryz.ntmps28
  go_wp2_with fail
  refine (j1 _ I0.out).mono ?_
  rintro e w1 ⟨rfl, hb1⟩
  have Q1 : Hid (ObB w1 w.heap.size o (.slice va o.l.length vc) (.slice ua o.r.l.length uc)) := Q0.out.next hb1
  have R1 : Hid (RsB w1 (w.heap.size + 1) r (.slice xa r.l.length xc)) := R0.out.next hb1
  have Z1 : Hid (ObB w1 (w.heap.size + 1 + 1) noO (.slice none 0 0) (.slice none 0 0)) := Z0.out.next hb1
  have B1 : Hid (Below w.heap.size w w1) := past6 B0.out hb1
  have I1 : Hid (ObIn w1 (.slice va o.l.length vc) (.slice ua o.r.l.length uc) o) := I0.out.kept hb1
  have J1 : Hid (RsIn w1 (.slice xa r.l.length xc) r) := J0.out.kept hb1
  clear hb1 Q0 R0 Z0 B0 I0 J0 j1
  cases b1 with
  | false =>
    have HR : Hid (R = (noO, false)) := HN.out (fun h => by cases h.1)
    obtain ⟨z0, z1, z2, z3, z4, z5, z6, z7, zf, zh⟩ := Z1.out
    have HP : Hid (ObB (putL w1 (w.heap.size + 1 + 1) (obL noO (.slice none 0 0) (.slice none 0 0)) 0) (w.heap.size + 1 + 1) noO (.slice none 0 0) (.slice none 0 0)) := Z1.out.puts noO (.slice none 0 0) (.slice none 0 0)
    have BP : Hid (Below w.heap.size w (putL w1 (w.heap.size + 1 + 1) (obL noO (.slice none 0 0) (.slice none 0 0)) 0)) := putL_below (by omega) _ 0 B1.out
    simp only [noO, noS] at z0 z1 z2 z3 z4 z5 z6 z7
    go_wp2
    obtain ⟨p0, p1, p2, p3, p4, p5, p6, p7, pf, ph⟩ := HP.out
    have bp := BP.out
    simp only [obL, noO, noS, putL, Nat.zero_add, Nat.reduceAdd] at p0 p1 p2 p3 p4 p5 p6 p7 bp
    refine bodyPost_ret (v := .tuple #[obV noO (.slice none 0 0) (.slice none 0 0), .bool false]) (by unfold obV noO noS; simp [results, Tryz.results28, go_sem, p0, p1, p2, p3, p4, p5, p6, p7]) rfl ⟨(.slice none 0 0), (.slice none 0 0), by rw [HR.out]; rfl, by rw [HR.out]; exact OwnsF.none10 _ _, by rw [HR.out]; exact OwnsF.none10 _ _, (fun g h => by cases h), bp⟩
    
  | true =>
    obtain ⟨y0, y1, y2, yf, yh⟩ := R1.out
    go_wp2_with fail
    refine (j2 _ J1.out).mono ?_
    rintro e w2 ⟨rfl, hb2⟩
    have Q2 : Hid (ObB w2 w.heap.size o (.slice va o.l.length vc) (.slice ua o.r.l.length uc)) := Q1.out.next hb2
    have R2 : Hid (RsB w2 (w.heap.size + 1) r (.slice xa r.l.length xc)) := R1.out.next hb2
    have Z2 : Hid (ObB w2 (w.heap.size + 1 + 1) noO (.slice none 0 0) (.slice none 0 0)) := Z1.out.next hb2
    have B2 : Hid (Below w.heap.size w w2) := past6 B1.out hb2
    have I2 : Hid (ObIn w2 (.slice va o.l.length vc) (.slice ua o.r.l.length uc) o) := I1.out.kept hb2
    have J2 : Hid (RsIn w2 (.slice xa r.l.length xc) r) := J1.out.kept hb2
    clear hb2 Q1 R1 Z1 B1 I1 J1 j2 y0 y1 y2 yf yh
    cases b2 with
    | false =>
      have HR : Hid (R = (noO, false)) := HN.out (fun h => by cases h.2.1)
      obtain ⟨z0, z1, z2, z3, z4, z5, z6, z7, zf, zh⟩ := Z2.out
      have HP : Hid (ObB (putL w2 (w.heap.size + 1 + 1) (obL noO (.slice none 0 0) (.slice none 0 0)) 0) (w.heap.size + 1 + 1) noO (.slice none 0 0) (.slice none 0 0)) := Z2.out.puts noO (.slice none 0 0) (.slice none 0 0)
      have BP : Hid (Below w.heap.size w (putL w2 (w.heap.size + 1 + 1) (obL noO (.slice none 0 0) (.slice none 0 0)) 0)) := putL_below (by omega) _ 0 B2.out
      simp only [noO, noS] at z0 z1 z2 z3 z4 z5 z6 z7
      go_wp2
      obtain ⟨p0, p1, p2, p3, p4, p5, p6, p7, pf, ph⟩ := HP.out
      have bp := BP.out
      simp only [obL, noO, noS, putL, Nat.zero_add, Nat.reduceAdd] at p0 p1 p2 p3 p4 p5 p6 p7 bp
      refine bodyPost_ret (v := .tuple #[obV noO (.slice none 0 0) (.slice none 0 0), .bool false]) (by unfold obV noO noS; simp [results, Tryz.results28, go_sem, p0, p1, p2, p3, p4, p5, p6, p7]) rfl ⟨(.slice none 0 0), (.slice none 0 0), by rw [HR.out]; rfl, by rw [HR.out]; exact OwnsF.none10 _ _, by rw [HR.out]; exact OwnsF.none10 _ _, (fun g h => by cases h), bp⟩
      
    | true =>
      obtain ⟨y0, y1, y2, yf, yh⟩ := R2.out
      by_cases h304 : r.s = 304
      · obtain ⟨kk, kf, kr, km1, km2⟩ := K1.out (by decide)
        have kx := K2.out (by decide)
        have kq := K3.out kr
        rw [h304] at y0
        have HN' : Hid (¬ obB (renO o r asked got) = true → R = (noO, false)) := fun hh => HN.out (fun h => hh h.2.2.2)
        have HY' : Hid (obB (renO o r asked got) = true → R = (renO o r asked got, true)) := fun hh => HY.out ⟨by decide, by decide, h304, hh⟩
        clear HN HY K1 K2 K3
        have FK : Hid (keyO o.k = true ∧ fldsOk o.l = true ∧ fldsOk r.l = true ∧ fldsOk o.r.l = true ∧ o.r.b.size ≤ 1048576 ∧ o.k.size ≤ 1048576) := ⟨kk, kf, kx, kq, I2.out.2.1.2, I2.out.2.2⟩
        clear kk kf kr km1 km2 kx kq
        obtain ⟨q0, q1, q2, q3, q4, q5, q6, q7, qf, qh⟩ := Q2.out
        have fv : Hid (Fls w2 (.slice va o.l.length vc) o.l ∧ Solid (.slice va o.l.length vc)) := ⟨I2.out.1.1, I2.out.1.2.2.2⟩
        have fu : Hid (Fls w2 (.slice ua o.r.l.length uc) o.r.l ∧ Solid (.slice ua o.r.l.length uc)) := ⟨I2.out.2.1.1.1, I2.out.2.1.1.2.2.2⟩
        have fx : Hid (Fls w2 (.slice xa r.l.length xc) r.l) := J2.out.1.1
        have hl1 : o.l.length ≤ 30 := (fldsOk_parts FK.out.2.1).1
        have hl2 : o.r.l.length ≤ 30 := (fldsOk_parts FK.out.2.2.2.1).1
        have hl3 : r.l.length ≤ 30 := (fldsOk_parts FK.out.2.2.1).1
        have O2 : Hid (ObB (w2.alloc (.cells #[.string o.k, .slice va o.l.length vc, .int .i64 o.r.s, .slice ua o.r.l.length uc, .string o.r.b, .int .i64 o.asked, .int .i64 o.got, .int .i64 o.ep] 28)) w2.heap.size o (.slice va o.l.length vc) (.slice ua o.r.l.length uc)) := ObB.new w2 o _ _ _
        have X3 : Hid (Below w2.heap.size w2 (w2.alloc (.cells #[.string o.k, .slice va o.l.length vc, .int .i64 o.r.s, .slice ua o.r.l.length uc, .string o.r.b, .int .i64 o.asked, .int .i64 o.got, .int .i64 o.ep] 28))) := (Below.refl _ w2).alloc (Nat.le_refl _) _
        have hz2 : w.heap.size + 1 + 1 < w2.heap.size := Z2.out.hi
        have l3 : w2.heap.size < (w2.alloc (.cells #[.string o.k, .slice va o.l.length vc, .int .i64 o.r.s, .slice ua o.r.l.length uc, .string o.r.b, .int .i64 o.asked, .int .i64 o.got, .int .i64 o.ep] 28)).heap.size := by simp
        clear I2 J2
        go_upto_region 4 with fail
        generalize w2.alloc (.cells #[.string o.k, .slice va o.l.length vc, .int .i64 o.r.s, .slice ua o.r.l.length uc, .string o.r.b, .int .i64 o.asked, .int .i64 o.got, .int .i64 o.ep] 28) = w3 at O2 X3 l3 ⊢
        clear q0 q1 q2 q3 q4 q5 q6 q7 qf qh y0 y1 y2 yf yh
        have l0 : w.heap.size < w3.heap.size := by omega
        obtain ⟨q0, q1, q2, q3, q4, q5, q6, q7, qf, qh⟩ := Q2.out.next X3.out
        obtain ⟨o0, o1, o2, o3, o4, o5, o6, o7, of, oh⟩ := O2.out
        go_upto_region 5 with (at_builtin; go_loud (refine wpList_catX _ rfl (.tmp 28) (.tmp 30) rfl w3.heap.size _ (.slice va o.l.length vc) [] o.l rfl (OwnsF.born w3) rfl ((fv.out.1.kept X3.out).kept ((Below.refl _ w3).alloc (Nat.le_refl _) _)) fv.out.2 (by simp; omega) (by simp) ?_; intro v4 w4 ho4 hg4; have X4 : Hid (Below w3.heap.size w3 w4) := belowE10 ((Below.refl _ w3).alloc (Nat.le_refl _) _) hg4 (by simp) (by intro k hk; cases hk; exact Nat.le_refl _); have V4' : OwnsF w4 w3.heap.size v4 o.l := ho4; obtain ⟨a4, c4, rfl, _, _⟩ := V4'.form; have V4 : Hid (OwnsF w4 w3.heap.size (.slice a4 o.l.length c4) o.l) := V4'; clear V4' hg4 ho4 o0 o1 o2 o3 o4 o5 o6 o7 of oh q0 q1 q2 q3 q4 q5 q6 q7 qf qh; obtain ⟨o0, o1, o2, o3, o4, o5, o6, o7, of, oh⟩ := O2.out.next X4.out))
        have O5 : Hid (ObB (w4.setCell ⟨w2.heap.size, 1, none⟩ (.slice a4 o.l.length c4)) w2.heap.size o (.slice a4 o.l.length c4) (.slice ua o.r.l.length uc)) := (O2.out.next X4.out).put1 _
        have X5 : Hid (Below w2.heap.size w2 (w4.setCell ⟨w2.heap.size, 1, none⟩ (.slice a4 o.l.length c4))) := low_put10 (X3.out.trans (X4.out.mono (by omega))) (Nat.le_refl _)
        have V5 : Hid (OwnsF (w4.setCell ⟨w2.heap.size, 1, none⟩ (.slice a4 o.l.length c4)) w3.heap.size (.slice a4 o.l.length c4) o.l) := V4.out.putlow10 l3 1 _
        have l5 : w2.heap.size < (w4.setCell ⟨w2.heap.size, 1, none⟩ (.slice a4 o.l.length c4)).heap.size := O5.out.hi
        have m5 : w3.heap.size ≤ (w4.setCell ⟨w2.heap.size, 1, none⟩ (.slice a4 o.l.length c4)).heap.size := by rw [World.size_setCell]; exact X4.out.size
        clear o0 o1 o2 o3 o4 o5 o6 o7 of oh
        generalize w4.setCell ⟨w2.heap.size, 1, none⟩ (.slice a4 o.l.length c4) = w5 at O5 X5 V5 l5 m5 ⊢
        clear X3 X4 V4 O2 l0
        have l0 : w.heap.size < w5.heap.size := by omega
        have l1 : w.heap.size + 1 < w5.heap.size := by omega
        obtain ⟨q0, q1, q2, q3, q4, q5, q6, q7, qf, qh⟩ := Q2.out.next X5.out
        go_upto_region 6 with (at_builtin; refine wpList_catX _ rfl (.tmp 33) (.tmp 36) rfl w5.heap.size _ (.slice ua o.r.l.length uc) [] o.r.l rfl (OwnsF.born w5) rfl ((fu.out.1.kept X5.out).kept ((Below.refl _ w5).alloc (Nat.le_refl _) _)) fu.out.2 (by simp; omega) (by simp) ?_; intro v6 w6 ho6 hg6; have X6 : Hid (Below w5.heap.size w5 w6) := belowE10 ((Below.refl _ w5).alloc (Nat.le_refl _) _) hg6 (by simp) (by intro k hk; cases hk; exact Nat.le_refl _); have V6' : OwnsF w6 w5.heap.size v6 o.r.l := ho6; obtain ⟨a6, c6, rfl, _, _⟩ := V6'.form; have V6 : Hid (OwnsF w6 w5.heap.size (.slice a6 o.r.l.length c6) o.r.l) := V6'; clear V6' hg6 ho6)
        clear q0 q1 q2 q3 q4 q5 q6 q7 qf qh
        go_wp2_with fail
        go_loopw [11, 12] (fun u i wr => ∃ (k : Nat), k ≤ r.l.length ∧ i = .int .i64 k ∧ Hid (OwnsF wr w5.heap.size u (ovrL o.r.l (r.l.take k))) ∧ Hid (Below w5.heap.size w5 wr)) (fun _ i _ => r.l.length - (intOf i).toNat)
        case atStart => exact ⟨0, Nat.zero_le _, rfl, V6, X6⟩
        case round =>
          clear V6 X6
          obtain ⟨k, hk, rfl, hown, hbw⟩ := hrel
          have X7 : Hid (Below w2.heap.size w2 wr) := X5.out.trans (hbw.out.mono X5.out.size)
          obtain ⟨y0, y1, y2, yf, yh⟩ := R2.out.next X7.out
          by_cases hlt : k < r.l.length
          · obtain ⟨xa', xc', exx, _, _, hx3⟩ := fx.out
            simp only [Value.slice.injEq, true_and] at exx
            obtain ⟨rfl, rfl⟩ := exx
            obtain ⟨g, q, rfl, hg, hcl⟩ := hx3 (by omega)
            have e1 := (X7.out.cell (p := ⟨g, q + k * 2, none⟩) hg).trans (hcl k hlt).1
            have e2 := (X7.out.cell (p := ⟨g, q + k * 2 + 1, none⟩) hg).trans (hcl k hlt).2
            have HNX : Hid (ovrL o.r.l (r.l.take (k + 1)) = wo (ovrL o.r.l (r.l.take k)) r.l[k].1 ++ [r.l[k]]) := ovrL_next _ hlt
            have hsz := ovrL_size (r.l.take k) o.r.l
            have hmm := ovrL_mem (r.l.take k) o.r.l
            have hLl : (ovrL o.r.l (r.l.take k)).length ≤ 900000 := by
              have h1 := hsz.1
              rw [List.length_take] at h1
              omega
            have hLs : ∀ f ∈ ovrL o.r.l (r.l.take k), f.1.size ≤ 1048576 ∧ f.2.size ≤ 1048576 := fun f hf => by
              have h1 : fldOk f = true := by
                rcases hmm f hf with h1 | h1
                · exact (fldsOk_parts FK.out.2.2.2.1).2 f h1
                · exact (fldsOk_parts FK.out.2.2.1).2 f (List.mem_of_mem_take h1)
              have h2 := fldOk_size h1
              omega
            have hfn : r.l[k].1.size ≤ 1048576 := by
              have h2 := fldOk_size ((fldsOk_parts FK.out.2.2.1).2 r.l[k] (List.getElem_mem hlt))
              omega
            have hlr : k < r.l.length := hlt
            clear hsz hmm hcl
            generalize r.l[k] = f at e1 e2 HNX hfn
            generalize ovrL o.r.l (r.l.take k) = L at hown HNX hLl hLs
            have l1r : w.heap.size + 1 < wr.heap.size := yh
            have lgr : g < wr.heap.size := by have := X7.out.size; omega
            go_upto_region 9 with fail
            refine region_heads 14 mixed (by decide) (by kernel_rfl) (by kernel_rfl) (by kernel_rfl) (by kernel_rfl) (frN o r asked got va ua vc uc xc g q w.heap.size w2.heap.size w3.heap.size w5.heap.size wr.heap.size a4 a6 c4 c6 u11 u43 u44 u59 k L f) dN (Below wr.heap.size wr) (GN o r asked got va ua vc uc xc g q w.heap.size w2.heap.size w3.heap.size w5.heap.size wr.heap.size a4 a6 c4 c6 u11 u43 u44 u59 k L f) (fun i j hi hj h => dN_ne hi hj h) ?put (fun i => if i = 45 then u45 else if i = 46 then u46 else if i = 47 then u47 else if i = 48 then u48 else if i = 49 then u49 else if i = 50 then u50 else if i = 51 then u51 else if i = 52 then u52 else if i = 53 then u53 else if i = 54 then u54 else if i = 55 then u55 else if i = 56 then u56 else if i = 57 then u57 else if i = 58 then u58 else undef) rfl ?hS ?step ?done
            case put =>
              intro i o hi ho t v
              rcases (show i = 0 ∨ i = 1 ∨ i = 2 ∨ i = 3 ∨ i = 4 ∨ i = 5 ∨ i = 6 ∨ i = 7 ∨ i = 8 ∨ i = 9 ∨ i = 10 ∨ i = 11 ∨ i = 12 ∨ i = 13 by omega) with rfl | rfl | rfl | rfl | rfl | rfl | rfl | rfl | rfl | rfl | rfl | rfl | rfl | rfl
              all_goals
                obtain rfl := Option.some.inj ho
                rfl
            case step =>
              intro i o hi ho t x hS hdep K hK
              rcases (show i = 0 ∨ i = 1 ∨ i = 2 ∨ i = 3 ∨ i = 4 ∨ i = 5 ∨ i = 6 ∨ i = 7 ∨ i = 8 ∨ i = 9 ∨ i = 10 ∨ i = 11 ∨ i = 12 ∨ i = 13 by omega) with rfl | rfl | rfl | rfl | rfl | rfl | rfl | rfl | rfl | rfl | rfl | rfl | rfl | rfl
              all_goals obtain rfl := Option.some.inj ho
              · have HK : Hid (K ((frN o r asked got va ua vc uc xc g q w.heap.size w2.heap.size w3.heap.size w5.heap.size wr.heap.size a4 a6 c4 c6 u11 u43 u44 u59 k L f t).put (some 45) u11) x) := hK _ _ hS (fun j u hj hne h => h) rfl
                have h2 := HK.out
                unfold frN at h2 ⊢
                go_simp
                simpa [Act.put, Act.put] using h2
              · have HK : Hid (K ((frN o r asked got va ua vc uc xc g q w.heap.size w2.heap.size w3.heap.size w5.heap.size wr.heap.size a4 a6 c4 c6 u11 u43 u44 u59 k L f t).put (some 46) (.pointer (some ⟨w.heap.size + 1, 1, none⟩))) x) := hK _ _ hS (fun j u hj hne h => h) rfl
                have h2 := HK.out
                unfold frN at h2 ⊢
                go_simp
                simpa [Act.put, Act.put] using h2
              · have e1 : t 46 = (.pointer (some ⟨w.heap.size + 1, 1, none⟩)) := hdep { on := 1, ground := Ground.data } (by simp) rfl
                have c1 : x.cell? ⟨w.heap.size + 1, 1, none⟩ = some (.slice (some ⟨g, q, none⟩) r.l.length xc) := (hS.cell (p := ⟨w.heap.size + 1, 1, none⟩) l1r).trans y1
                have HK : Hid (K ((frN o r asked got va ua vc uc xc g q w.heap.size w2.heap.size w3.heap.size w5.heap.size wr.heap.size a4 a6 c4 c6 u11 u43 u44 u59 k L f t).put (some 47) (.slice (some ⟨g, q, none⟩) r.l.length xc)) x) := hK _ _ hS (fun j u hj hne h => h) rfl
                have h2 := HK.out
                unfold frN at h2 ⊢
                go_simp
                simpa [Act.put, e1, c1] using h2
              · have HK : Hid (K ((frN o r asked got va ua vc uc xc g q w.heap.size w2.heap.size w3.heap.size w5.heap.size wr.heap.size a4 a6 c4 c6 u11 u43 u44 u59 k L f t).put (some 48) (.int .i64 (k : Int))) x) := hK _ _ hS (fun j u hj hne h => h) rfl
                have h2 := HK.out
                unfold frN at h2 ⊢
                go_simp
                simpa [Act.put, Act.put] using h2
              · have e2 : t 47 = (.slice (some ⟨g, q, none⟩) r.l.length xc) := hdep { on := 2, ground := Ground.data } (by simp) rfl
                have e3 : t 48 = (.int .i64 (k : Int)) := hdep { on := 3, ground := Ground.data } (by simp) rfl
                have hkI : (k : Int) < (r.l.length : Int) := by omega
                have hk0 : ¬ (k : Int) < 0 := by omega
                have HK : Hid (K ((frN o r asked got va ua vc uc xc g q w.heap.size w2.heap.size w3.heap.size w5.heap.size wr.heap.size a4 a6 c4 c6 u11 u43 u44 u59 k L f t).put (some 49) (.pointer (some ⟨g, q + k * 2, none⟩))) x) := hK _ _ hS (fun j u hj hne h => h) rfl
                have h2 := HK.out
                unfold frN at h2 ⊢
                go_simp
                simpa [Act.put, e2, e3, hkI, hk0] using h2
              · have e4 : t 49 = (.pointer (some ⟨g, q + k * 2, none⟩)) := hdep { on := 4, ground := Ground.data } (by simp) rfl
                have HK : Hid (K ((frN o r asked got va ua vc uc xc g q w.heap.size w2.heap.size w3.heap.size w5.heap.size wr.heap.size a4 a6 c4 c6 u11 u43 u44 u59 k L f t).put (some 50) (.pointer (some ⟨g, q + k * 2, none⟩))) x) := hK _ _ hS (fun j u hj hne h => h) rfl
                have h2 := HK.out
                unfold frN at h2 ⊢
                go_simp
                simpa [Act.put, e4] using h2
              · have e5 : t 50 = (.pointer (some ⟨g, q + k * 2, none⟩)) := hdep { on := 5, ground := Ground.data } (by simp) rfl
                have c2 : x.cell? ⟨g, q + k * 2, none⟩ = some (.string f.1) := (hS.cell (p := ⟨g, q + k * 2, none⟩) lgr).trans e1
                have HK : Hid (K ((frN o r asked got va ua vc uc xc g q w.heap.size w2.heap.size w3.heap.size w5.heap.size wr.heap.size a4 a6 c4 c6 u11 u43 u44 u59 k L f t).put (some 51) (.string f.1)) x) := hK _ _ hS (fun j u hj hne h => h) rfl
                have h2 := HK.out
                unfold frN at h2 ⊢
                go_simp
                simpa [Act.put, e5, c2] using h2
              · have e0 : t 45 = u11 := hdep { on := 0, ground := Ground.data } (by simp) rfl
                have e6 : t 51 = .string f.1 := hdep { on := 6, ground := Ground.data } (by simp) rfl
                refine step_call2 rfl 80 (.tmp 45) (.tmp 51) _ rfl u11 (.string f.1) e0 e6 (Go.Proofs.enters_of Tryz.func80 (by kernel_rfl) rfl _) (fun v y => OwnsF y wr.heap.size v (wo L f.1) ∧ Below x.heap.size x y) ((specWoN u11 L f.1 x (hown.out.fls.kept hS) hLl hLs hfn).mono ?_) ?_
                · rintro e y ⟨v, h0, h1, h2⟩
                  exact ⟨v, h0, h1.low hS.size, h2⟩
                · rintro v y ⟨h1, h2⟩
                  exact hK v y (hS.trans (h2.mono hS.size)) (fun j u hj hne h => GN.keep o r asked got va ua vc uc xc g q w.heap.size w2.heap.size w3.heap.size w5.heap.size wr.heap.size a4 a6 c4 c6 u11 u43 u44 u59 k L f h2 j u hj h) h1
              · have HK : Hid (K ((frN o r asked got va ua vc uc xc g q w.heap.size w2.heap.size w3.heap.size w5.heap.size wr.heap.size a4 a6 c4 c6 u11 u43 u44 u59 k L f t).put (some 53) (.pointer (some ⟨w.heap.size + 1, 1, none⟩))) x) := hK _ _ hS (fun j u hj hne h => h) rfl
                have h2 := HK.out
                unfold frN at h2 ⊢
                go_simp
                simpa [Act.put, Act.put] using h2
              · have e8 : t 53 = (.pointer (some ⟨w.heap.size + 1, 1, none⟩)) := hdep { on := 8, ground := Ground.data } (by simp) rfl
                have c1 : x.cell? ⟨w.heap.size + 1, 1, none⟩ = some (.slice (some ⟨g, q, none⟩) r.l.length xc) := (hS.cell (p := ⟨w.heap.size + 1, 1, none⟩) l1r).trans y1
                have HK : Hid (K ((frN o r asked got va ua vc uc xc g q w.heap.size w2.heap.size w3.heap.size w5.heap.size wr.heap.size a4 a6 c4 c6 u11 u43 u44 u59 k L f t).put (some 54) (.slice (some ⟨g, q, none⟩) r.l.length xc)) x) := hK _ _ hS (fun j u hj hne h => h) rfl
                have h2 := HK.out
                unfold frN at h2 ⊢
                go_simp
                simpa [Act.put, e8, c1] using h2
              · have HK : Hid (K ((frN o r asked got va ua vc uc xc g q w.heap.size w2.heap.size w3.heap.size w5.heap.size wr.heap.size a4 a6 c4 c6 u11 u43 u44 u59 k L f t).put (some 55) (.int .i64 (k : Int))) x) := hK _ _ hS (fun j u hj hne h => h) rfl
                have h2 := HK.out
                unfold frN at h2 ⊢
                go_simp
                simpa [Act.put, Act.put] using h2
              · have e9 : t 54 = (.slice (some ⟨g, q, none⟩) r.l.length xc) := hdep { on := 9, ground := Ground.data } (by simp) rfl
                have e10 : t 55 = (.int .i64 (k : Int)) := hdep { on := 10, ground := Ground.data } (by simp) rfl
                have hkI : (k : Int) < (r.l.length : Int) := by omega
                have hk0 : ¬ (k : Int) < 0 := by omega
                have HK : Hid (K ((frN o r asked got va ua vc uc xc g q w.heap.size w2.heap.size w3.heap.size w5.heap.size wr.heap.size a4 a6 c4 c6 u11 u43 u44 u59 k L f t).put (some 56) (.pointer (some ⟨g, q + k * 2, none⟩))) x) := hK _ _ hS (fun j u hj hne h => h) rfl
                have h2 := HK.out
                unfold frN at h2 ⊢
                go_simp
                simpa [Act.put, e9, e10, hkI, hk0] using h2
              · have e11 : t 56 = (.pointer (some ⟨g, q + k * 2, none⟩)) := hdep { on := 11, ground := Ground.data } (by simp) rfl
                have c2 : x.cell? ⟨g, q + k * 2, none⟩ = some (.string f.1) := (hS.cell (p := ⟨g, q + k * 2, none⟩) lgr).trans e1
                have c3 : x.cell? ⟨g, q + k * 2 + 1, none⟩ = some (.string f.2) := (hS.cell (p := ⟨g, q + k * 2 + 1, none⟩) lgr).trans e2
                have HK : Hid (K ((frN o r asked got va ua vc uc xc g q w.heap.size w2.heap.size w3.heap.size w5.heap.size wr.heap.size a4 a6 c4 c6 u11 u43 u44 u59 k L f t).put (some 57) (.agg #[.string f.1, .string f.2])) x) := hK _ _ hS (fun j u hj hne h => h) rfl
                have h2 := HK.out
                unfold frN at h2 ⊢
                go_simp
                simpa [Act.put, e11, c2, c3] using h2
              · have e12 : t 57 = .agg #[.string f.1, .string f.2] := hdep { on := 12, ground := Ground.data } (by simp) rfl
                have hba := (Below.refl x.heap.size x).alloc (Nat.le_refl _) (.cells #[.string f.1, .string f.2] 105)
                have HK : Hid (K ((frN o r asked got va ua vc uc xc g q w.heap.size w2.heap.size w3.heap.size w5.heap.size wr.heap.size a4 a6 c4 c6 u11 u43 u44 u59 k L f t).put (some 58) (.slice (some ⟨x.heap.size, 0, none⟩) 1 1)) (x.alloc (.cells #[.string f.1, .string f.2] 105))) := hK _ _ (hS.trans (hba.mono hS.size)) (fun j u hj hne h => GN.keep o r asked got va ua vc uc xc g q w.heap.size w2.heap.size w3.heap.size w5.heap.size wr.heap.size a4 a6 c4 c6 u11 u43 u44 u59 k L f hba j u hj h) ⟨x.heap.size, rfl, newAt x _⟩
                have h2 := HK.out
                unfold frN at h2 ⊢
                go_simp
                simpa [Act.put, e12] using h2
            case hS => exact ⟨rfl, rfl, rfl, Nat.le_refl _, fun _ _ => rfl⟩
            case done =>
              intro t x hS hG
              have h52 : OwnsF x wr.heap.size (t 52) (wo L f.1) := hG 7 (by decide)
              obtain ⟨gg, e58, h58⟩ : ∃ gg, t 58 = .slice (some ⟨gg, 0, none⟩) 1 1 ∧ x.heap[gg]? = some (.cells #[.string f.1, .string f.2] 105 (0, 0)) := hG 13 (by decide)
              have hwl := wo_length L f.1
              have hF : Fls x (.slice (some ⟨gg, 0, none⟩) 1 1) [f] := ⟨_, 1, rfl, Nat.le_refl _, by unfold maxLen; decide, fun _ => ⟨gg, 0, rfl, (Array.getElem?_eq_some_iff.1 h58).1, fun j hj => by
                obtain rfl : j = 0 := by simpa using hj
                exact ⟨rowCell h58, rowCell h58⟩⟩⟩
              have hB5 : Below w5.heap.size w5 x := hbw.out.trans (hS.mono hbw.out.size)
              show wpList Tryz.prog _ _ [_, _] _ x
              unfold frN
              refine wpList_catX x rfl (.tmp 52) (.tmp 58) rfl w5.heap.size (t 52) _ (wo L f.1) [f] rfl (h52.low hbw.out.size) e58 hF (fun n c e => by cases e) (by simp; omega) hB5.size ?_
              intro v8 w8 ho8 hg8
              have hB8 : Hid (Below w5.heap.size w5 w8) := belowE10 hB5 hg8 hB5.size (h52.low hbw.out.size).from
              have hO8 : Hid (OwnsF w8 w5.heap.size v8 (ovrL o.r.l (r.l.take (k + 1)))) := by show OwnsF _ _ _ _; rw [HNX.out]; exact ho8
              clear ho8 hg8 hG hS h52 h58 hF hB5 e58 hown hbw y0 y1 y2 yf e1 e2
              go_wp2
              go_roundw
              case rel => exact ⟨k + 1, by omega, by go_num, hO8, hB8⟩
              case measure => simp [intOf]; omega
          · obtain rfl : k = r.l.length := by omega
            rw [List.take_length] at hown
            have X8 := hbw.out
            obtain ⟨q0, q1, q2, q3, q4, q5, q6, q7, qf, qh⟩ := Q2.out.next X7.out
            have O8 : Hid (ObB wr w2.heap.size o (.slice a4 o.l.length c4) (.slice ua o.r.l.length uc)) := O5.out.next hbw.out
            have V8 : Hid (OwnsF wr w3.heap.size (.slice a4 o.l.length c4) o.l) := V5.out.kept hbw.out
            have Z8 : Hid (ObB wr (w.heap.size + 1 + 1) noO (.slice none 0 0) (.slice none 0 0)) := Z2.out.next X7.out
            obtain ⟨o0, o1, o2, o3, o4, o5, o6, o7, of, oh⟩ := O8.out
            obtain ⟨au, cu, rfl, _, _⟩ := hown.out.form
            have hub : ∀ b, (Value.slice au (ovrL o.r.l r.l).length cu).ownBlock = some b → w5.heap.size ≤ b := hown.out.from
            have O9 : Hid (ObB (((((wr.setCell ⟨w2.heap.size, 2, none⟩ (.int .i64 o.r.s)).setCell ⟨w2.heap.size, 3, none⟩ (.slice au (ovrL o.r.l r.l).length cu)).setCell ⟨w2.heap.size, 4, none⟩ (.string o.r.b)).setCell ⟨w2.heap.size, 5, none⟩ (.int .i64 asked)).setCell ⟨w2.heap.size, 6, none⟩ (.int .i64 got)) w2.heap.size (renO o r asked got) (.slice a4 o.l.length c4) (.slice au (ovrL o.r.l r.l).length cu)) := ((((O8.out.put210 o.r.s).put310 (ovrL o.r.l r.l) (.slice au (ovrL o.r.l r.l).length cu)).put410 o.r.b).put510 asked).put610 got
            have V9 : Hid (OwnsF (((((wr.setCell ⟨w2.heap.size, 2, none⟩ (.int .i64 o.r.s)).setCell ⟨w2.heap.size, 3, none⟩ (.slice au (ovrL o.r.l r.l).length cu)).setCell ⟨w2.heap.size, 4, none⟩ (.string o.r.b)).setCell ⟨w2.heap.size, 5, none⟩ (.int .i64 asked)).setCell ⟨w2.heap.size, 6, none⟩ (.int .i64 got)) w3.heap.size (.slice a4 o.l.length c4) o.l) := ((((V8.out.putlow10 l3 2 _).putlow10 l3 3 _).putlow10 l3 4 _).putlow10 l3 5 _).putlow10 l3 6 _
            have U9 : Hid (OwnsF (((((wr.setCell ⟨w2.heap.size, 2, none⟩ (.int .i64 o.r.s)).setCell ⟨w2.heap.size, 3, none⟩ (.slice au (ovrL o.r.l r.l).length cu)).setCell ⟨w2.heap.size, 4, none⟩ (.string o.r.b)).setCell ⟨w2.heap.size, 5, none⟩ (.int .i64 asked)).setCell ⟨w2.heap.size, 6, none⟩ (.int .i64 got)) w5.heap.size (.slice au (ovrL o.r.l r.l).length cu) (ovrL o.r.l r.l)) := ((((hown.out.putlow10 l5 2 _).putlow10 l5 3 _).putlow10 l5 4 _).putlow10 l5 5 _).putlow10 l5 6 _
            have Z9 : Hid (ObB (((((wr.setCell ⟨w2.heap.size, 2, none⟩ (.int .i64 o.r.s)).setCell ⟨w2.heap.size, 3, none⟩ (.slice au (ovrL o.r.l r.l).length cu)).setCell ⟨w2.heap.size, 4, none⟩ (.string o.r.b)).setCell ⟨w2.heap.size, 5, none⟩ (.int .i64 asked)).setCell ⟨w2.heap.size, 6, none⟩ (.int .i64 got)) (w.heap.size + 1 + 1) noO (.slice none 0 0) (.slice none 0 0)) := ((((Z8.out.far (by omega) _).far (by omega) _).far (by omega) _).far (by omega) _).far (by omega) _
            have B9 : Hid (Below w.heap.size w (((((wr.setCell ⟨w2.heap.size, 2, none⟩ (.int .i64 o.r.s)).setCell ⟨w2.heap.size, 3, none⟩ (.slice au (ovrL o.r.l r.l).length cu)).setCell ⟨w2.heap.size, 4, none⟩ (.string o.r.b)).setCell ⟨w2.heap.size, 5, none⟩ (.int .i64 asked)).setCell ⟨w2.heap.size, 6, none⟩ (.int .i64 got))) := low_put10 (low_put10 (low_put10 (low_put10 (low_put10 (B2.out.trans (X7.out.mono B2.out.size)) (by omega)) (by omega)) (by omega)) (by omega)) (by omega)
            clear O8 Z8 V8 hown hbw X8
            go_upto_region 13 with fail
            generalize (((((wr.setCell ⟨w2.heap.size, 2, none⟩ (.int .i64 o.r.s)).setCell ⟨w2.heap.size, 3, none⟩ (.slice au (ovrL o.r.l r.l).length cu)).setCell ⟨w2.heap.size, 4, none⟩ (.string o.r.b)).setCell ⟨w2.heap.size, 5, none⟩ (.int .i64 asked)).setCell ⟨w2.heap.size, 6, none⟩ (.int .i64 got)) = w9 at O9 V9 U9 Z9 B9 ⊢
            clear q0 q1 q2 q3 q4 q5 q6 q7 qf qh o0 o1 o2 o3 o4 o5 o6 o7 of oh y0 y1 y2 yf yh
            have hsz := ovrL_size r.l o.r.l
            have hs1 := szL_flds FK.out.2.1
            have hs2 := szL_flds FK.out.2.2.1
            have hs3 := szL_flds FK.out.2.2.2.1
            have I9 : Hid (ObIn w9 (.slice a4 o.l.length c4) (.slice au (ovrL o.r.l r.l).length cu) (renO o r asked got)) := ⟨V9.out.fits10 (by show szL o.l ≤ _; omega) (by show o.l.length ≤ _; omega), ⟨U9.out.fits10 (by show szL (ovrL o.r.l r.l) ≤ _; omega) (by show (ovrL o.r.l r.l).length ≤ _; omega), FK.out.2.2.2.2.1⟩, FK.out.2.2.2.2.2⟩
            have hj := specObOk (renO o r asked got) (.slice a4 o.l.length c4) (.slice au (ovrL o.r.l r.l).length cu) w9 I9.out
            generalize obB (renO o r asked got) = b9 at hj HN' HY'
            unfold obV at hj
            obtain ⟨o0, o1, o2, o3, o4, o5, o6, o7, of, oh⟩ := O9.out
            simp only [renO] at hj o0 o1 o2 o3 o4 o5 o6 o7
            go_wp2_with fail
            refine hj.mono ?_
            rintro e w10 ⟨rfl, hb10⟩
            have OX : Hid (ObB w10 w2.heap.size (renO o r asked got) (.slice a4 o.l.length c4) (.slice au (ovrL o.r.l r.l).length cu)) := O9.out.next hb10
            have VX : Hid (OwnsF w10 w3.heap.size (.slice a4 o.l.length c4) o.l) := V9.out.kept hb10
            have UX : Hid (OwnsF w10 w5.heap.size (.slice au (ovrL o.r.l r.l).length cu) (ovrL o.r.l r.l)) := U9.out.kept hb10
            have ZX : Hid (ObB w10 (w.heap.size + 1 + 1) noO (.slice none 0 0) (.slice none 0 0)) := Z9.out.next hb10
            have BX : Hid (Below w.heap.size w w10) := past6 B9.out hb10
            clear hb10 O9 V9 U9 Z9 B9 I9 hj o0 o1 o2 o3 o4 o5 o6 o7 of oh hsz hs1 hs2 hs3
            cases b9 with
            | false =>
              have HR : Hid (R = (noO, false)) := HN'.out (by decide)
              obtain ⟨z0, z1, z2, z3, z4, z5, z6, z7, zf, zh⟩ := ZX.out
              have HP : Hid (ObB (putL w10 (w.heap.size + 1 + 1) (obL noO (.slice none 0 0) (.slice none 0 0)) 0) (w.heap.size + 1 + 1) noO (.slice none 0 0) (.slice none 0 0)) := ZX.out.puts noO (.slice none 0 0) (.slice none 0 0)
              have BP : Hid (Below w.heap.size w (putL w10 (w.heap.size + 1 + 1) (obL noO (.slice none 0 0) (.slice none 0 0)) 0)) := putL_below (by omega) _ 0 BX.out
              simp only [noO, noS] at z0 z1 z2 z3 z4 z5 z6 z7
              go_wp2
              obtain ⟨p0, p1, p2, p3, p4, p5, p6, p7, pf, ph⟩ := HP.out
              have bp := BP.out
              simp only [obL, noO, noS, putL, Nat.zero_add, Nat.reduceAdd] at p0 p1 p2 p3 p4 p5 p6 p7 bp
              refine bodyPost_ret (v := .tuple #[obV noO (.slice none 0 0) (.slice none 0 0), .bool false]) (by unfold obV noO noS; simp [results, Tryz.results28, go_sem, p0, p1, p2, p3, p4, p5, p6, p7]) rfl ⟨(.slice none 0 0), (.slice none 0 0), by rw [HR.out]; rfl, by rw [HR.out]; exact OwnsF.none10 _ _, by rw [HR.out]; exact OwnsF.none10 _ _, (fun g h => by cases h), bp⟩
              
            | true =>
              have HR : Hid (R = (renO o r asked got, true)) := HY'.out (by decide)
              clear HN' HY'
              obtain ⟨z0, z1, z2, z3, z4, z5, z6, z7, zf, zh⟩ := ZX.out
              obtain ⟨o0, o1, o2, o3, o4, o5, o6, o7, of, oh⟩ := OX.out
              have HP : Hid (ObB (putL w10 (w.heap.size + 1 + 1) (obL (renO o r asked got) (.slice a4 o.l.length c4) (.slice au (ovrL o.r.l r.l).length cu)) 0) (w.heap.size + 1 + 1) (renO o r asked got) (.slice a4 o.l.length c4) (.slice au (ovrL o.r.l r.l).length cu)) := ZX.out.puts _ _ _
              have BP : Hid (Below w.heap.size w (putL w10 (w.heap.size + 1 + 1) (obL (renO o r asked got) (.slice a4 o.l.length c4) (.slice au (ovrL o.r.l r.l).length cu)) 0)) := putL_below (by omega) _ 0 BX.out
              have VP : Hid (OwnsF (putL w10 (w.heap.size + 1 + 1) (obL (renO o r asked got) (.slice a4 o.l.length c4) (.slice au (ovrL o.r.l r.l).length cu)) 0) w.heap.size (.slice a4 o.l.length c4) o.l) := (VX.out.putL10 (by omega) _ 0).low (by omega)
              have UP : Hid (OwnsF (putL w10 (w.heap.size + 1 + 1) (obL (renO o r asked got) (.slice a4 o.l.length c4) (.slice au (ovrL o.r.l r.l).length cu)) 0) w.heap.size (.slice au (ovrL o.r.l r.l).length cu) (ovrL o.r.l r.l)) := (UX.out.putL10 (by omega) _ 0).low (by omega)
              have HV : Hid (∀ gv, (Value.slice a4 o.l.length c4).ownBlock = some gv → gv < w5.heap.size) := fun gv e => V5.out.under gv e
              have HU : Hid (∀ gv, (Value.slice au (ovrL o.r.l r.l).length cu).ownBlock = some gv → w5.heap.size ≤ gv) := fun gv e => UX.out.from gv e
              simp only [noO, noS] at z0 z1 z2 z3 z4 z5 z6 z7
              simp only [renO] at o0 o1 o2 o3 o4 o5 o6 o7
              clear ZX OX VX UX BX hub
              go_wp2
              obtain ⟨p0, p1, p2, p3, p4, p5, p6, p7, pf, ph⟩ := HP.out
              have bp := BP.out
              have vp := VP.out
              have up := UP.out
              simp only [obL, renO, putL, Nat.zero_add, Nat.reduceAdd] at p0 p1 p2 p3 p4 p5 p6 p7 bp vp up
              refine bodyPost_ret (v := .tuple #[obV (renO o r asked got) (.slice a4 o.l.length c4) (.slice au (ovrL o.r.l r.l).length cu), .bool true]) (by unfold obV renO; simp [results, Tryz.results28, go_sem, p0, p1, p2, p3, p4, p5, p6, p7]) rfl ⟨(.slice a4 o.l.length c4), (.slice au (ovrL o.r.l r.l).length cu), by rw [HR.out]; rfl, by rw [HR.out]; exact vp, by rw [HR.out]; exact up, fun gv h1 h2 => by have := HV.out gv h1; have := HU.out gv h2; omega, bp⟩
      · have d304 : (r.s == 304) = false := by simpa using h304
        have HR : Hid (R = (noO, false)) := HN.out (fun h => h304 h.2.2.1)
        obtain ⟨z0, z1, z2, z3, z4, z5, z6, z7, zf, zh⟩ := Z2.out
        have HP : Hid (ObB (putL w2 (w.heap.size + 1 + 1) (obL noO (.slice none 0 0) (.slice none 0 0)) 0) (w.heap.size + 1 + 1) noO (.slice none 0 0) (.slice none 0 0)) := Z2.out.puts noO (.slice none 0 0) (.slice none 0 0)
        have BP : Hid (Below w.heap.size w (putL w2 (w.heap.size + 1 + 1) (obL noO (.slice none 0 0) (.slice none 0 0)) 0)) := putL_below (by omega) _ 0 B2.out
        simp only [noO, noS] at z0 z1 z2 z3 z4 z5 z6 z7
        go_wp2
        obtain ⟨p0, p1, p2, p3, p4, p5, p6, p7, pf, ph⟩ := HP.out
        have bp := BP.out
        simp only [obL, noO, noS, putL, Nat.zero_add, Nat.reduceAdd] at p0 p1 p2 p3 p4 p5 p6 p7 bp
        refine bodyPost_ret (v := .tuple #[obV noO (.slice none 0 0) (.slice none 0 0), .bool false]) (by unfold obV noO noS; simp [results, Tryz.results28, go_sem, p0, p1, p2, p3, p4, p5, p6, p7]) rfl ⟨(.slice none 0 0), (.slice none 0 0), by rw [HR.out]; rfl, by rw [HR.out]; exact OwnsF.none10 _ _, by rw [HR.out]; exact OwnsF.none10 _ _, (fun g h => by cases h), bp⟩
        
end Go.Proofs.YtkaogmdhjcgcdaaGreatDoor
namespace Go.Proofs.YtkaogmdhjcgcdaaGreatDoor
open Go.RowKit Go.Sort
set_option linter.unusedVariables false
set_option linter.unusedSimpArgs false

/-- Some fields, none large. -/
def FewG (l : List Fl) : Prop := l.length ≤ 40 ∧ ∀ f ∈ l, f.1.size ≤ 84 ∧ f.2.size ≤ 84
theorem FewF.more {m : Nat} {l : List Fl} (h : FewF m l) (hm : m ≤ 40 := by decide) : FewG l := ⟨Nat.le_trans h.1 hm, fun f hf => by have := h.2 f hf; omega⟩
theorem FewG.sz {l : List Fl} (h : FewG l) : szL l ≤ 6720 := by
  have : ∀ (l : List Fl), (∀ f ∈ l, f.1.size ≤ 84 ∧ f.2.size ≤ 84) → szL l ≤ 168 * l.length := by
    intro l
    induction l with
    | nil => intro _; exact Nat.zero_le _
    | cons f l ih =>
      intro h
      have h1 := h f (by simp)
      have h2 := ih fun g hg => h g (by simp [hg])
      have e : szL (f :: l) = szF f + szL l := by simp [szL]
      rw [e, List.length_cons]
      unfold szF
      omega
  have h2 := this l h.2
  have := h.1
  omega
/-- An object that is not large. -/
def FewO (o : Ob) : Prop := o.k.size ≤ 600 ∧ FewG o.l ∧ FewG o.r.l ∧ o.r.b.size ≤ 4100 ∧ (0 ≤ o.got ∧ o.got ≤ 253402300800)
def gOb (B : Nat) (x : World) (v : Value) : Prop := ∃ o p u, v = obV o p u ∧ OwnsF x B p o.l ∧ OwnsF x B u o.r.l ∧ FewO o
theorem gOb.keep {b B : Nat} {x y : World} {v : Value} (h : gOb B x v) (hb : Beside b x y) (hB : b < B) : gOb B y v := by obtain ⟨o, p, u, h0, h1, h2, h3⟩ := h; exact ⟨o, p, u, h0, h1.beside10 hb hB, h2.beside10 hb hB, h3⟩
def frX (b n B : Nat) (gz : Int) (z5 : Value) (t : Nat → Value) : Act := { tmps := #[.pointer (some ⟨b, 0, none⟩), undef, .pointer (some ⟨n, 0, none⟩), .int .i64 gz, .pointer (some ⟨b, 0, none⟩), z5, .int .i64 gz, t 7, t 8, t 9, t 10, t 11, t 12, t 13, t 14, t 15, t 16, t 17, t 18, t 19, t 20, t 21, t 22, t 23], defers := [] }
def dX (i : Nat) : Nat := if i = 0 then 7 else if i = 1 then 8 else if i = 2 then 9 else if i = 3 then 10 else if i = 4 then 11 else if i = 5 then 12 else if i = 6 then 13 else if i = 7 then 14 else if i = 8 then 15 else if i = 9 then 16 else if i = 10 then 17 else if i = 11 then 18 else if i = 12 then 19 else if i = 13 then 20 else if i = 14 then 21 else if i = 15 then 22 else if i = 16 then 23 else i + 5000
def GX (b n B : Nat) (gz : Int) (z5 : Value) (i : Nat) (x : World) (v : Value) : Prop := match i with
  | 0 => gTabS b [⟨#[104, 47, 97]⟩, ⟨#[104, 47, 98]⟩, ⟨#[104, 47, 97, 47, 99]⟩, ⟨#[104, 47]⟩] x v
  | 1 => v = .pointer (some ⟨b, 0, none⟩)
  | 2 => gNum 4 v
  | 3 => gPtS b [⟨#[104, 47, 97]⟩, ⟨#[104, 47, 98]⟩, ⟨#[104, 47, 97, 47, 99]⟩, ⟨#[104, 47]⟩] x v
  | 4 => gTxt 5 v
  | 5 => v = .pointer (some ⟨b, 0, none⟩)
  | 6 => gFl B 2 x v
  | 7 => v = .pointer (some ⟨b, 0, none⟩)
  | 8 => gRs B x v
  | 9 => v = (.int .i64 gz)
  | 10 => v = .pointer (some ⟨b, 0, none⟩)
  | 11 => gNum 5 v
  | 12 => gInt 990 1019 v
  | 13 => v = (.int .i64 gz)
  | 14 => v = .pointer (some ⟨b, 0, none⟩)
  | 15 => gNum 5 v
  | 16 => gOb B x v
  | _ => True
theorem GX.keep (b n B : Nat) (gz : Int) (z5 : Value) {x y : World} (hb : Beside b x y) (hB : b < B) (j : Nat) (v : Value) (hj : j < 17) (h : GX b n B gz z5 j x v) : GX b n B gz z5 j y v := by
  rcases (show j = 0 ∨ j = 1 ∨ j = 2 ∨ j = 3 ∨ j = 4 ∨ j = 5 ∨ j = 6 ∨ j = 7 ∨ j = 8 ∨ j = 9 ∨ j = 10 ∨ j = 11 ∨ j = 12 ∨ j = 13 ∨ j = 14 ∨ j = 15 ∨ j = 16 by omega) with rfl | rfl | rfl | rfl | rfl | rfl | rfl | rfl | rfl | rfl | rfl | rfl | rfl | rfl | rfl | rfl | rfl
  · exact gTabS.keep h hb
  · exact h
  · exact h
  · exact gPtS.keep h hb
  · exact h
  · exact h
  · exact gFl.keep h hb hB
  · exact h
  · exact gRs.keep h hb hB
  · exact h
  · exact h
  · exact h
  · exact h
  · exact h
  · exact h
  · exact h
  · exact gOb.keep h hb hB
theorem dX_ne {i j : Nat} (hi : i < 17) (hj : j < 17) (h : j ≠ i) : dX j ≠ dX i := by
  rcases (show i = 0 ∨ i = 1 ∨ i = 2 ∨ i = 3 ∨ i = 4 ∨ i = 5 ∨ i = 6 ∨ i = 7 ∨ i = 8 ∨ i = 9 ∨ i = 10 ∨ i = 11 ∨ i = 12 ∨ i = 13 ∨ i = 14 ∨ i = 15 ∨ i = 16 by omega) with rfl | rfl | rfl | rfl | rfl | rfl | rfl | rfl | rfl | rfl | rfl | rfl | rfl | rfl | rfl | rfl | rfl <;> rcases (show j = 0 ∨ j = 1 ∨ j = 2 ∨ j = 3 ∨ j = 4 ∨ j = 5 ∨ j = 6 ∨ j = 7 ∨ j = 8 ∨ j = 9 ∨ j = 10 ∨ j = 11 ∨ j = 12 ∨ j = 13 ∨ j = 14 ∨ j = 15 ∨ j = 16 by omega) with rfl | rfl | rfl | rfl | rfl | rfl | rfl | rfl | rfl | rfl | rfl | rfl | rfl | rfl | rfl | rfl | rfl <;> first | (exact absurd rfl h) | decide
set_option maxRecDepth 100000 in
set_option maxHeartbeats 8000000 in
theorem l10DrawO (b : Nat) (sa : Option Addr) (sl sc : Nat) (w : World) (hc : Cur w b sa sl sc) :
    Calls Tryz.prog 89 #[.pointer (some ⟨b, 0, none⟩)] w fun e w' => (∃ v, e = .returned v ∧ gOb w.heap.size w' v) ∧ Cur w' b sa sl sc ∧ Beside b w w' := by
  have hbz : b < w.heap.size := hc.2.2.1
  obtain ⟨B, hB⟩ : ∃ B, B = w.heap.size + 1 := ⟨_, rfl⟩
  have hBb : b < B := by omega
  go_enter Tryz.func89, Tryz.ntmps89
  go_wp2_with fail
  refine (l1Below b sa sl sc 20 (by decide) (by decide) (w.alloc (.cells #[.string ⟨#[]⟩, .slice none 0 0, .int .i64 0, .slice none 0 0, .string ⟨#[]⟩, .int .i64 0, .int .i64 0, .int .i64 0] 28)) (hc.more9 _)).mono ?_
  rintro e w1 ⟨z, rfl, hz0, hz1, hc1, hb1⟩
  have N1 : Hid (ObB w1 w.heap.size noO (.slice none 0 0) (.slice none 0 0)) := (ObB.new w noO (.slice none 0 0) (.slice none 0 0) 28).beside hb1 (by omega)
  have B1 : Hid (Beside b w w1) := ((Beside.refl b w).more9 _).trans hb1
  have hw1 : B ≤ w1.heap.size := by have := N1.out.hi; omega
  have ew : IntKind.i64.wrap (1000 + z) = 1000 + z := by rw [IntKind.wrap_i64]; omega
  have hBx : ∀ x, SCur b sa sl sc w1 x → B ≤ x.heap.size := fun x h => by have := h.size; omega
  have hS0 : SCur b sa sl sc w1 w1.drew := ⟨hc1, ⟨rfl, rfl, rfl, Nat.le_refl _, fun _ _ _ => rfl⟩⟩
  clear hb1 hc1 hc
  go_upto_region 2 with fail
  obtain ⟨gz, hgz⟩ : ∃ gz, gz = 1000 + z := ⟨_, rfl⟩
  obtain ⟨z5, hz5⟩ : ∃ z5 : Value, z5 = .int .i64 z := ⟨_, rfl⟩
  rw [← hgz, ← hz5]
  have hg0 : 1000 ≤ gz := by omega
  have hg1 : gz ≤ 1019 := by omega
  clear hgz hz5 hz0 hz1 ew
  refine region_heads 17 mixed (by decide) (by kernel_rfl) (by kernel_rfl) (by kernel_rfl) (by kernel_rfl) (frX b w.heap.size B gz z5) dX (SCur b sa sl sc w1) (GX b w.heap.size B gz z5) (fun i j hi hj h => dX_ne hi hj h) ?put (fun _ => undef) rfl ?hS ?step ?done
  case put =>
    intro i o hi ho t v
    rcases (show i = 0 ∨ i = 1 ∨ i = 2 ∨ i = 3 ∨ i = 4 ∨ i = 5 ∨ i = 6 ∨ i = 7 ∨ i = 8 ∨ i = 9 ∨ i = 10 ∨ i = 11 ∨ i = 12 ∨ i = 13 ∨ i = 14 ∨ i = 15 ∨ i = 16 by omega) with rfl | rfl | rfl | rfl | rfl | rfl | rfl | rfl | rfl | rfl | rfl | rfl | rfl | rfl | rfl | rfl | rfl
    all_goals
      obtain rfl := Option.some.inj ho
      rfl
  case step =>
    intro i o hi ho t x hS hdep K hK
    rcases (show i = 0 ∨ i = 1 ∨ i = 2 ∨ i = 3 ∨ i = 4 ∨ i = 5 ∨ i = 6 ∨ i = 7 ∨ i = 8 ∨ i = 9 ∨ i = 10 ∨ i = 11 ∨ i = 12 ∨ i = 13 ∨ i = 14 ∨ i = 15 ∨ i = 16 by omega) with rfl | rfl | rfl | rfl | rfl | rfl | rfl | rfl | rfl | rfl | rfl | rfl | rfl | rfl | rfl | rfl | rfl
    all_goals obtain rfl := Option.some.inj ho
    · have HK : Hid (K ((frX b w.heap.size B gz z5 t).put (some 7) (.slice (some ⟨x.heap.size, 0, none⟩) 4 4)) (x.alloc (.cells (List.map Value.string [⟨#[104, 47, 97]⟩, ⟨#[104, 47, 98]⟩, ⟨#[104, 47, 97, 47, 99]⟩, ⟨#[104, 47]⟩]).toArray 9))) := hK _ _ (hS.more _) (fun j u hj hne h => GX.keep b w.heap.size B gz z5 (besAlloc b x _) hBb j u hj h) ⟨x.heap.size, rfl, newAt x _, (by have := hS.lt; omega)⟩
      unfold frX
      go_simp
      exact HK.out
    · have HK : Hid (K ((frX b w.heap.size B gz z5 t).put (some 8) (.pointer (some ⟨b, 0, none⟩))) x) := hK _ _ hS (fun j u hj hne h => h) rfl
      unfold frX
      go_simp
      exact HK.out
    · have e : t 8 = .pointer (some ⟨b, 0, none⟩) := hdep { on := 1, ground := Ground.data } (by simp) rfl
      exact step_below rfl 4 (by decide) (by decide) (.tmp 8) _ rfl e hS (fun v y k1 k2 k3 => hK v y k1 (fun j u hj hne h => GX.keep b w.heap.size B gz z5 k2 hBb j u hj h) k3)
    · have ga : gTabS b [⟨#[104, 47, 97]⟩, ⟨#[104, 47, 98]⟩, ⟨#[104, 47, 97, 47, 99]⟩, ⟨#[104, 47]⟩] x (t 7) := hdep { on := 0, ground := Ground.data } (by simp) rfl
      obtain ⟨g, ea, hT, hgb⟩ := ga
      have gc : gNum 4 (t 9) := hdep { on := 2, ground := Ground.data } (by simp) rfl
      obtain ⟨k, ec, hk⟩ := gc
      have hkI : (k : Int) < 4 := by omega
      have hk0 : ¬ (k : Int) < 0 := by omega
      have HK : Hid (K ((frX b w.heap.size B gz z5 t).put (some 10) (.pointer (some ⟨g, k, none⟩))) x) := hK _ _ hS (fun j u hj hne h => h) ⟨g, k, rfl, hk, hT, hgb⟩
      have h2 := HK.out
      unfold frX at h2 ⊢
      go_simp
      simpa [Act.put, ea, ec, hkI] using h2
    · have ga : gPtS b [⟨#[104, 47, 97]⟩, ⟨#[104, 47, 98]⟩, ⟨#[104, 47, 97, 47, 99]⟩, ⟨#[104, 47]⟩] x (t 10) := hdep { on := 3, ground := Ground.data } (by simp) rfl
      obtain ⟨g, k, ea, hk, hT, hgb⟩ := ga
      obtain ⟨z, hz0, c0⟩ : ∃ z : ByteArray, z.size ≤ 5 ∧ x.cell? ⟨g, k, none⟩ = some (.string z) := ⟨_, (by decide : ∀ s ∈ ([⟨#[104, 47, 97]⟩, ⟨#[104, 47, 98]⟩, ⟨#[104, 47, 97, 47, 99]⟩, ⟨#[104, 47]⟩] : List ByteArray), s.size ≤ 5) _ (List.getElem_mem hk), tabS_at hT hk⟩
      have HK : Hid (K ((frX b w.heap.size B gz z5 t).put (some 11) (.string z)) x) := hK _ _ hS (fun j u hj hne h => h) ⟨z, rfl, hz0⟩
      have h2 := HK.out
      unfold frX at h2 ⊢
      go_simp
      simpa [Act.put, ea, c0] using h2
    · have HK : Hid (K ((frX b w.heap.size B gz z5 t).put (some 12) (.pointer (some ⟨b, 0, none⟩))) x) := hK _ _ hS (fun j u hj hne h => h) rfl
      unfold frX
      go_simp
      exact HK.out
    · have e : t 12 = .pointer (some ⟨b, 0, none⟩) := hdep { on := 5, ground := Ground.data } (by simp) rfl
      exact step_draw1 rfl 66 (.tmp 12) _ rfl e hS (Go.Proofs.enters_of Tryz.func66 (by kernel_rfl) rfl) (fun x v => gFl B 2 x v) ((l10DrawAsks b sa sl sc x hS.1).mono fun e y ⟨⟨u, l, h0, h1, h2⟩, h3, h4⟩ => ⟨⟨u, h0, l, h1.low (hBx x hS), h2⟩, h3, h4⟩) (fun v y k1 k2 k3 => hK v y k1 (fun j u hj hne h => GX.keep b w.heap.size B gz z5 k2 hBb j u hj h) k3)
    · have HK : Hid (K ((frX b w.heap.size B gz z5 t).put (some 14) (.pointer (some ⟨b, 0, none⟩))) x) := hK _ _ hS (fun j u hj hne h => h) rfl
      unfold frX
      go_simp
      exact HK.out
    · have e : t 14 = .pointer (some ⟨b, 0, none⟩) := hdep { on := 7, ground := Ground.data } (by simp) rfl
      exact step_draw1 rfl 67 (.tmp 14) _ rfl e hS (Go.Proofs.enters_of Tryz.func67 (by kernel_rfl) rfl) (fun x v => gRs B x v) ((l10DrawR b sa sl sc x hS.1).mono fun e y ⟨⟨v, h0, r, u, h1, h2, h3⟩, h4, h5⟩ => ⟨⟨v, h0, r, u, h1, h2.low (hBx x hS), h3⟩, h4, h5⟩) (fun v y k1 k2 k3 => hK v y k1 (fun j u hj hne h => GX.keep b w.heap.size B gz z5 k2 hBb j u hj h) k3)
    · have HK : Hid (K ((frX b w.heap.size B gz z5 t).put (some 16) (.int .i64 gz)) x) := hK _ _ hS (fun j u hj hne h => h) rfl
      have h2 := HK.out
      unfold frX at h2 ⊢
      go_simp
      simpa [Act.put, Act.put] using h2
    · have HK : Hid (K ((frX b w.heap.size B gz z5 t).put (some 17) (.pointer (some ⟨b, 0, none⟩))) x) := hK _ _ hS (fun j u hj hne h => h) rfl
      unfold frX
      go_simp
      exact HK.out
    · have e : t 17 = .pointer (some ⟨b, 0, none⟩) := hdep { on := 10, ground := Ground.data } (by simp) rfl
      exact step_below rfl 5 (by decide) (by decide) (.tmp 17) _ rfl e hS (fun v y k1 k2 k3 => hK v y k1 (fun j u hj hne h => GX.keep b w.heap.size B gz z5 k2 hBb j u hj h) k3)
    · have e9 : t 16 = .int .i64 gz := hdep { on := 9, ground := Ground.data } (by simp) rfl
      have gc : gNum 5 (t 18) := hdep { on := 11, ground := Ground.data } (by simp) rfl
      obtain ⟨k, ec, hk⟩ := gc
      have ew : IntKind.i64.wrap (gz - (k : Int)) = gz - (k : Int) := by rw [IntKind.wrap_i64]; omega
      have HK : Hid (K ((frX b w.heap.size B gz z5 t).put (some 19) (.int .i64 (gz - (k : Int)))) x) := hK _ _ hS (fun j u hj hne h => h) ⟨_, rfl, by omega, by omega⟩
      have h2 := HK.out
      unfold frX at h2 ⊢
      go_simp
      simpa [Act.put, e9, ec, ew] using h2
    · have HK : Hid (K ((frX b w.heap.size B gz z5 t).put (some 20) (.int .i64 gz)) x) := hK _ _ hS (fun j u hj hne h => h) rfl
      have h2 := HK.out
      unfold frX at h2 ⊢
      go_simp
      simpa [Act.put, Act.put] using h2
    · have HK : Hid (K ((frX b w.heap.size B gz z5 t).put (some 21) (.pointer (some ⟨b, 0, none⟩))) x) := hK _ _ hS (fun j u hj hne h => h) rfl
      unfold frX
      go_simp
      exact HK.out
    · have e : t 21 = .pointer (some ⟨b, 0, none⟩) := hdep { on := 14, ground := Ground.data } (by simp) rfl
      exact step_below rfl 5 (by decide) (by decide) (.tmp 21) _ rfl e hS (fun v y k1 k2 k3 => hK v y k1 (fun j u hj hne h => GX.keep b w.heap.size B gz z5 k2 hBb j u hj h) k3)
    · have g4 : gTxt 5 (t 11) := hdep { on := 4, ground := Ground.data } (by simp) rfl
      obtain ⟨sk, e4, hk4⟩ := g4
      have g6 : gFl B 2 x (t 13) := hdep { on := 6, ground := Ground.data } (by simp) rfl
      obtain ⟨l, ho6, hl6⟩ := g6
      obtain ⟨a6, c6, e6, _, _⟩ := ho6.form
      rw [e6] at ho6
      have g8 : gRs B x (t 15) := hdep { on := 8, ground := Ground.data } (by simp) rfl
      obtain ⟨r, u, e8, ho8, hr8⟩ := g8
      obtain ⟨a8, c8, rfl, _, _⟩ := ho8.form
      unfold rsV at e8
      have g12 : gInt 990 1019 (t 19) := hdep { on := 12, ground := Ground.data } (by simp) rfl
      obtain ⟨za, e12, hz0, hz1⟩ := g12
      have e13 : t 20 = .int .i64 gz := hdep { on := 13, ground := Ground.data } (by simp) rfl
      have g15 : gNum 5 (t 22) := hdep { on := 15, ground := Ground.data } (by simp) rfl
      obtain ⟨kk, e15, hk15⟩ := g15
      have HK : Hid (K ((frX b w.heap.size B gz z5 t).put (some 23) (.agg #[.string sk, .slice a6 l.length c6, .int .i64 r.s, .slice a8 r.l.length c8, .string r.b, .int .i64 za, .int .i64 gz, .int .i64 (kk : Int)])) x) := hK _ _ hS (fun j u hj hne h => h) ⟨⟨sk, l, r, za, gz, (kk : Int)⟩, _, _, rfl, ho6, ho8, by show sk.size ≤ 600; omega, hl6.more, hr8.1.more, by show r.b.size ≤ 4100; have := hr8.2.2; omega, by show 0 ≤ gz ∧ gz ≤ 253402300800; omega⟩
      have h2 := HK.out
      unfold frX at h2 ⊢
      go_simp
      simpa [Act.put, e4, e6, e8, e12, e13, e15] using h2
  case hS => exact hS0
  case done =>
    intro t x hS hG
    obtain ⟨o, p, u, e23, h1, h2, h3⟩ : gOb B x (t 23) := hG 16 (by decide)
    obtain ⟨a6, c6, rfl, _, _⟩ := h1.form
    obtain ⟨a8, c8, rfl, _, _⟩ := h2.form
    have N2 : Hid (ObB x w.heap.size noO (.slice none 0 0) (.slice none 0 0)) := N1.out.beside hS.2 (by omega)
    have HP : Hid (ObB (putL x w.heap.size (obL o (.slice a6 o.l.length c6) (.slice a8 o.r.l.length c8)) 0) w.heap.size o (.slice a6 o.l.length c6) (.slice a8 o.r.l.length c8)) := N2.out.puts _ _ _
    have BP : Hid (Below w.heap.size x (putL x w.heap.size (obL o (.slice a6 o.l.length c6) (.slice a8 o.r.l.length c8)) 0)) := putL_below (Nat.le_refl _) _ 0 (Below.refl _ _)
    have VP : Hid (OwnsF (putL x w.heap.size (obL o (.slice a6 o.l.length c6) (.slice a8 o.r.l.length c8)) 0) w.heap.size (.slice a6 o.l.length c6) o.l) := (h1.putL10 (by omega) _ 0).low (by omega)
    have UP : Hid (OwnsF (putL x w.heap.size (obL o (.slice a6 o.l.length c6) (.slice a8 o.r.l.length c8)) 0) w.heap.size (.slice a8 o.r.l.length c8) o.r.l) := (h2.putL10 (by omega) _ 0).low (by omega)
    have C2 : Hid (Cur x b sa sl sc) := hS.1
    have B2 : Hid (Beside b w x) := B1.out.trans hS.2
    obtain ⟨z0, z1, z2, z3, z4, z5', z6, z7, zf, zh⟩ := N2.out
    simp only [noO, noS] at z0 z1 z2 z3 z4 z5' z6 z7
    clear hG hS h1 h2 N1 N2 B1
    unfold obV at e23
    show wpList Tryz.prog _ _ [_] _ x
    unfold frX
    rw [e23]
    clear e23
    go_wp2
    obtain ⟨p0, p1, p2, p3, p4, p5, p6, p7, pf, ph⟩ := HP.out
    have bp := BP.out
    have vp := VP.out
    have up := UP.out
    simp only [obL, putL, Nat.zero_add, Nat.reduceAdd] at p0 p1 p2 p3 p4 p5 p6 p7 bp vp up
    refine bodyPost_ret (v := obV o (.slice a6 o.l.length c6) (.slice a8 o.r.l.length c8)) (by unfold obV; simp [results, Tryz.results89, go_sem, p0, p1, p2, p3, p4, p5, p6, p7]) rfl ⟨⟨_, rfl, o, _, _, rfl, vp, up, h3⟩, C2.out.kept bp hbz, B2.out.grow10 bp (Nat.le_refl _)⟩
end Go.Proofs.YtkaogmdhjcgcdaaGreatDoor
namespace Go.Proofs.YtkaogmdhjcgcdaaGreatDoor
open Go.RowKit Go.Sort

def upd {α : Type} (f : Nat → α) (i : Nat) (x : α) : Nat → α := fun j => if j = i then x else f j
def lst (listed : Array Bool) : Nat → Bool := fun j => listed.getD j false
theorem lst_set {listed : Array Bool} {i : Nat} (hi : i < listed.size) : lst (listed.setIfInBounds i true) = upd (lst listed) i true := by
  funext j
  unfold lst upd
  by_cases h : j = i
  · subst h
    simp [hi]
  · rw [if_neg h]
    simp [Array.getElem?_setIfInBounds_ne (fun e => h e.symm)]
theorem lst_all (n : Nat) : lst (Array.replicate n false) = fun _ => false := by
  funext j
  unfold lst
  by_cases h : j < n <;> simp [h]
def left (listed : Array Bool) : Nat := listed.toList.count false
theorem left_set {listed : Array Bool} {i : Nat} (hi : listed.getD i true = false) : left (listed.setIfInBounds i true) + 1 = left listed := by
  have hlt : i < listed.size := by
    rcases Nat.lt_or_ge i listed.size with h | h
    · exact h
    · simp [Array.getElem?_eq_none h] at hi
  have he : listed.toList[i]'(by simpa using hlt) = false := by
    simp [hlt] at hi
    simpa using hi
  unfold left
  rw [Array.toList_setIfInBounds, List.count_set (by simpa using hlt)]
  have hp : 0 < listed.toList.count false := List.count_pos_iff.2 (by rw [← he]; exact List.getElem_mem _)
  rw [he]
  show listed.toList.count false - 1 + 0 + 1 = listed.toList.count false
  omega

theorem wpAny_inv {P : Program} {md : Region.Mode} {ops : Array Oper} {Q : Exit → Act → World → Prop} (Inv : (Nat → Bool) → Act → World → Prop)
    (hstep : ∀ (L : Nat → Bool) (a : Act) (w : World) (i : Nat) (o : Oper) (K : Act → World → Prop), ops[i]? = some o → L i = false → (∀ e ∈ o.after, Region.binds md e = true → L e.on = true) → Inv L a w → (∀ a' w', Inv (upd L i true) a' w' → K a' w') →
      if Region.wanted o (yielded ops a.tmps) = true then Oper.wp P o a w K Q else K (a.put o.dst undef) w)
    (hback : ∀ (i : Nat) (o : Oper), ops[i]? = some o → ∀ e ∈ o.after, Region.binds md e = true → e.on < i)
    (hdone : ∀ (L : Nat → Bool) (a : Act) (w : World), (∀ i, i < ops.size → L i = true) → Inv L a w → Q .normal a w) :
    ∀ (fuel : Nat) (listed : Array Bool) (a : Act) (w : World), listed.size = ops.size → left listed ≤ fuel → Inv (lst listed) a w → wpAny P md ops Q fuel listed a w := by
  have hall : ∀ (listed : Array Bool), listed.size = ops.size → Region.ready md ops listed = [] → ∀ i, i < ops.size → lst listed i = true := by
    intro listed hs hr i
    induction i using Nat.strongRecOn with
    | _ i ih =>
      intro hi
      cases h : lst listed i with
      | true => rfl
      | false =>
        have hm : i ∈ Region.ready md ops listed := mem_ready.2 ⟨by
            unfold lst at h
            have hlt : i < listed.size := by omega
            simp [hlt] at h ⊢
            exact h, ops[i], by simp [hi], fun e he hb => ih e.on (hback i ops[i] (by simp [hi]) e he hb) (by have := hback i ops[i] (by simp [hi]) e he hb; omega)⟩
        rw [hr] at hm
        cases hm
  intro fuel
  induction fuel with
  | zero =>
    intro listed a w hs hl hI
    have hr : Region.ready md ops listed = [] := by
      cases h : Region.ready md ops listed with
      | nil => rfl
      | cons i r =>
        have hm : i ∈ Region.ready md ops listed := by rw [h]; simp
        have := left_set (mem_ready.1 hm).1
        omega
    exact ⟨hr, hdone _ _ _ (hall listed hs hr) hI⟩
  | succ fuel ih =>
    intro listed a w hs hl hI
    refine ⟨fun hr => hdone _ _ _ (hall listed hs hr) hI, fun i hi => ?_⟩
    obtain ⟨h1, o, ho, hdep⟩ := mem_ready.1 hi
    have hlt : i < ops.size := (Array.getElem?_eq_some_iff.1 ho).1
    have hc := left_set h1
    have := hstep (lst listed) a w i o (wpAny P md ops Q fuel (listed.setIfInBounds i true)) ho (by unfold lst; simp [show i < listed.size by omega] at h1 ⊢; exact h1) hdep hI (fun a' w' h' => ih _ a' w' (by simpa using hs) (by omega) (by rw [lst_set (by omega)]; exact h'))
    unfold wpOp
    rw [ho]
    show if Region.wanted o (yielded ops a.tmps) = true then _ else _
    split
    · rename_i hw
      rw [if_pos hw] at this
      exact Or.inl this
    · rename_i hw
      rw [if_neg hw] at this
      exact this

theorem region_inv {P : Program} {ops : Array Oper} {Q : Exit → Act → World → Prop} {id : Nat} {a : Act} {w : World} (hm : P.follows .mixedOrders = true) (Inv : (Nat → Bool) → Act → World → Prop)
    (h0 : Inv (fun _ => false) a w.drew)
    (hstep : ∀ (L : Nat → Bool) (a : Act) (w : World) (i : Nat) (o : Oper) (K : Act → World → Prop), ops[i]? = some o → L i = false → (∀ e ∈ o.after, Region.binds .any e = true → L e.on = true) → Inv L a w → (∀ a' w', Inv (upd L i true) a' w' → K a' w') →
      if Region.wanted o (yielded ops a.tmps) = true then Oper.wp P o a w K Q else K (a.put o.dst undef) w)
    (hback : ∀ (i : Nat) (o : Oper), ops[i]? = some o → ∀ e ∈ o.after, Region.binds .any e = true → e.on < i)
    (hdone : ∀ (L : Nat → Bool) (a : Act) (w : World), (∀ i, i < ops.size → L i = true) → Inv L a w → Q .normal a w) : (Code.region id ops true).wp P Q a w := by
  refine wp_region_any hm (wpAny_inv Inv hstep hback hdone ops.size _ a _ (by simp) (by unfold left; simp) ?_)
  rw [lst_all]
  exact h0
end Go.Proofs.YtkaogmdhjcgcdaaGreatDoor
namespace Go.Proofs.YtkaogmdhjcgcdaaGreatDoor
open Go.RowKit

/-! ### A line, byte by byte -/
def LnAt (s : ByteArray) (k i : Nat) : Prop := lnS (s.data.toList.drop k) = (lnS (s.data.toList.drop i)).map fun p => (cutL s.data.toList k i ++ p.1, p.2)
theorem LnAt.start (s : ByteArray) (k : Nat) : LnAt s k k := by
  unfold LnAt
  rw [cutL_self]
  cases lnS (s.data.toList.drop k) with
  | none => rfl
  | some p => rfl
theorem LnAt.next {s : ByteArray} {k i : Nat} (h : LnAt s k i) (hi : i < s.size) (hk : k ≤ i) (h13 : s[i] ≠ 13) (h10 : s[i] ≠ 10) : LnAt s k (i + 1) := by
  unfold LnAt at *
  rw [h, drop_at' s i hi, lnS_more h13 h10, Option.map_map]
  congr 1
  funext p
  show (cutL s.data.toList k i ++ (s[i] :: p.1), p.2) = (cutL s.data.toList k (i + 1) ++ p.1, p.2)
  rw [← cutL_next hi hk]
  simp
theorem LnAt.ten {s : ByteArray} {k i : Nat} (h : LnAt s k i) (hi : i < s.size) (h10 : s[i] = 10) : lnS (s.data.toList.drop k) = none := by
  unfold LnAt at h
  rw [h, drop_at' s i hi, lnS_ten h10]; rfl
theorem LnAt.done {s : ByteArray} {k i : Nat} (h : LnAt s k i) (hi : ¬ i < s.size) : lnS (s.data.toList.drop k) = none := by
  unfold LnAt at h
  rw [h, drop_past' s i hi]; rfl
theorem LnAt.lone {s : ByteArray} {k i : Nat} (h : LnAt s k i) (hi : i < s.size) (h13 : s[i] = 13) (h2 : ∀ hj : i + 1 < s.size, s[i + 1] ≠ 10) : lnS (s.data.toList.drop k) = none := by
  unfold LnAt at h
  rw [h, drop_at' s i hi, lnS_lone h13]
  · rfl
  · intro d t e
    by_cases hj : i + 1 < s.size
    · rw [drop_at' s (i + 1) hj] at e
      injection e with e1 e2
      rw [← e1]; exact h2 hj
    · rw [drop_past' s (i + 1) hj] at e; cases e
end Go.Proofs.YtkaogmdhjcgcdaaGreatDoor

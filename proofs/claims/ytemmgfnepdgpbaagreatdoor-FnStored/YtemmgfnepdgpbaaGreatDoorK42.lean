/-
  Drawn responses: whatever the code, a small response.
  Any drawn objects for policy.
  The draws of ShowObject and of ReadObject.
  The laws' pick of a place, by its contract.
-/
import Derived.Test.YtemmgfnepdgpbaaGreatDoorK41
import Derived.Test.YtemmgfnepdgpbaaGreatDoorK38
import Derived.Test.YtemmgfnepdgpbaaGreatDoorK04
import Derived.Test.YtemmgfnepdgpbaaGreatDoorK22
import Derived.Test.YtemmgfnepdgpbaaGreatDoorK33
import Derived.Test.YtemmgfnepdgpbaaGreatDoorK31
import Derived.Test.YtemmgfnepdgpbaaGreatDoorK23
namespace Go.Proofs.YtemmgfnepdgpbaaGreatDoor
open Go.RowKit Go.Sort
set_option linter.unusedVariables false

theorem box3 {w : World} {g : Nat} {c0 c1 c2 : Value} {T : TypeId} (h : w.heap[g]? = some (.cells #[c0, c1, c2] T (0, 0))) : w.cell? ⟨g, 0, none⟩ = some c0 ∧ w.cell? ⟨g, 1, none⟩ = some c1 ∧ w.cell? ⟨g, 2, none⟩ = some c2 ∧ ∀ k, w.frozen? ⟨g, k, none⟩ = false :=
  ⟨by rw [cell_of_row w g 0 _ _ _ h]; rfl, by rw [cell_of_row w g 1 _ _ _ h]; rfl, by rw [cell_of_row w g 2 _ _ _ h]; rfl, fun k => frozen_of_row h k⟩
def teF : Fl := (⟨#[116, 114, 97, 110, 115, 102, 101, 114, 45, 101, 110, 99, 111, 100, 105, 110, 103]⟩, ⟨#[99, 104, 117, 110, 107, 101, 100]⟩)
def BoxS (b n : Nat) (w : World) (g : Nat) (r : Rs) (u : Value) : Prop := w.heap[g]? = some (.cells #[.int .i64 r.s, u, .string r.b] 26 (0, 0)) ∧ g ≠ b ∧ n + 1 ≤ g
theorem BoxS.keep {b n : Nat} {w w' : World} {g : Nat} {r : Rs} {u : Value} (h : BoxS b n w g r u) (k : Keep b w w') : BoxS b n w' g r u := ⟨k g _ h.2.1 h.1, h.2⟩
def SmallS (r : Rs) : Prop := SmallG r.l ∧ r.b.size ≤ 4100
def SmallS0 (r : Rs) : Prop := SmallF r.l ∧ r.b.size ≤ 4100
def hasS (n : Nat) (w : World) (v : Value) : Prop := ∃ r u, v = rsV r u ∧ OwnsF w n u r.l ∧ SmallS0 r
def hasBoxS (b n : Nat) (w : World) (v : Value) : Prop := ∃ g, v = .pointer (some ⟨g, 0, none⟩) ∧ BoxS b n w g noS (.slice none 0 0)
def tabS0 : Array Value := #[.int .i64 200, .int .i64 204, .int .i64 304, .int .i64 404, .int .i64 599]
def tabS1 : Array Value := #[.int .i64 199, .int .i64 600, .int .i64 0, .int .i64 (-9223372036854775808)]
theorem tabS0_at (x : Nat) (h : x < 5) : ∃ s : Int, tabS0[x]? = some (.int .i64 s) := by
  rcases (show x = 0 ∨ x = 1 ∨ x = 2 ∨ x = 3 ∨ x = 4 by omega) with rfl | rfl | rfl | rfl | rfl <;> exact ⟨_, rfl⟩
theorem tabS1_at (x : Nat) (h : x < 4) : ∃ s : Int, tabS1[x]? = some (.int .i64 s) := by
  rcases (show x = 0 ∨ x = 1 ∨ x = 2 ∨ x = 3 by omega) with rfl | rfl | rfl | rfl <;> exact ⟨_, rfl⟩
def GS (b n : Nat) (w : World) (i : Nat) (v : Value) : Prop := match i with
  | 0 => hasTabT b w v 5 tabS0 2
  | 1 => v = .pointer (some ⟨b, 0, none⟩)
  | 2 => hasNum v 5
  | 3 => hasPtT b w v 5 tabS0 2
  | 4 => hasIt v
  | 5 => v = .pointer (some ⟨b, 0, none⟩)
  | 6 => hasFl0 (n + 1) w v
  | 7 => v = .pointer (some ⟨b, 0, none⟩)
  | 8 => hasTxt v 8
  | 9 => hasS (n + 1) w v
  | 10 => hasBoxS b n w v
  | _ => True
def dS (i : Nat) : Nat := if i = 10 then 3 else i + 4
theorem dS_inj {i j : Nat} (hi : i < 11) (hj : j < 11) (h : j ≠ i) : dS j ≠ dS i := by unfold dS; split <;> split <;> omega
theorem GS.keep {b n : Nat} {w w' : World} (hk : Keep b w w') (hb : b < n + 1) (j : Nat) (u : Value) (hj : j < 11) (h : GS b n w j u) : GS b n w' j u := by
  rcases (show j = 0 ∨ j = 1 ∨ j = 2 ∨ j = 3 ∨ j = 4 ∨ j = 5 ∨ j = 6 ∨ j = 7 ∨ j = 8 ∨ j = 9 ∨ j = 10 by omega) with rfl | rfl | rfl | rfl | rfl | rfl | rfl | rfl | rfl | rfl | rfl
  · exact hasTabT.keep h hk
  · exact h
  · exact h
  · exact hasPtT.keep h hk
  · exact h
  · exact h
  · obtain ⟨l, h1, h2⟩ := h; exact ⟨l, h1.keep hk hb, h2⟩
  · exact h
  · exact h
  · obtain ⟨r, u, h0, h1, h2⟩ := h; exact ⟨r, u, h0, h1.keep hk hb, h2⟩
  · obtain ⟨g, h0, h1⟩ := h; exact ⟨g, h0, h1.keep hk⟩
def frS (b n : Nat) (t : Nat → Value) : Act := { tmps := #[.pointer (some ⟨b, 0, none⟩), undef, .pointer (some ⟨n, 0, none⟩), t 3, t 4, t 5, t 6, t 7, t 8, t 9, t 10, t 11, t 12, t 13, undef, undef, undef, undef, undef, undef, undef, undef, undef, undef, undef, undef, undef, undef, undef, undef, undef, undef, undef, undef, undef, undef, undef, undef, undef, undef, undef, undef, undef, undef], defers := [] }
def FinS (b n : Nat) (t : Nat → Value) (w : World) : Prop := ∃ g r u, t 3 = .pointer (some ⟨g, 0, none⟩) ∧ BoxS b n w g r u ∧ OwnsF w (n + 1) u r.l ∧ SmallS0 r
def InvS (b n : Nat) (sa : Option Addr) (sl sc : Nat) (w0 : World) (L : Nat → Bool) (a : Act) (w : World) : Prop :=
  ∃ t, a = frS b n t ∧ Cur w b sa sl sc ∧ Beside b w0 w ∧ n + 1 ≤ w.heap.size ∧ CondG (GS b n) dS 11 (FinS b n) L t w

set_option maxRecDepth 100000 in
set_option maxHeartbeats 8000000 in
theorem l6DrawS (b : Nat) (sa : Option Addr) (sl sc : Nat) (w : World) (hc : Cur w b sa sl sc) :
    Calls Tryz.prog 76 #[.pointer (some ⟨b, 0, none⟩)] w fun e w' => (∃ r u, e = .returned (rsV r u) ∧ OwnsF w' w.heap.size u r.l ∧ SmallS r) ∧ Cur w' b sa sl sc ∧ Beside b w w' := by
  have hbz : b < w.heap.size := hc.2.2.1
  have hbn : b < w.heap.size + 1 := by omega
  have hent : ∀ args w, (callFunc 75 args).run Tryz.prog w = .ok (.enter 75 args) w := Go.Proofs.enters_of Tryz.func75 (by kernel_rfl) rfl
  have hent4 : ∀ args w, (callFunc 109 args).run Tryz.prog w = .ok (.enter 109 args) w := Go.Proofs.enters_of Tryz.func109 (by kernel_rfl) rfl
  have hent1 : ∀ args w, (callFunc 41 args).run Tryz.prog w = .ok (.enter 41 args) w := Go.Proofs.enters_of Tryz.func41 (by kernel_rfl) rfl
  have hb0 := (Below.refl w.heap.size w).alloc (Nat.le_refl _) (.cells #[.int .i64 0, .slice none 0 0, .string ⟨#[]⟩] 26)
  go_enter Tryz.func76, Tryz.ntmps76
  go_wp2
  refine region_inv mixed (InvS b w.heap.size sa sl sc (w.alloc (.cells #[.int .i64 0, .slice none 0 0, .string ⟨#[]⟩] 26))) ?h0 ?step ?back ?done
  case h0 =>
    refine ⟨fun _ => undef, rfl, ?_, ?_, ?_, CondG.none⟩
    · exact hc.kept (show Below w.heap.size w (w.alloc (.cells #[.int .i64 0, .slice none 0 0, .string ⟨#[]⟩] 26)).drew from ⟨hb0.os, hb0.tape, hb0.output, hb0.size, hb0.block⟩) hbz
    · exact ⟨rfl, rfl, rfl, Nat.le_refl _, fun _ _ _ => rfl⟩
    · show w.heap.size + 1 ≤ (w.alloc (.cells #[.int .i64 0, .slice none 0 0, .string ⟨#[]⟩] 26)).heap.size
      simp
  case step =>
    intro L a x i o K ho hi hdep hI hK
    obtain ⟨t, rfl, hcur, hbes, hsz, C⟩ := hI
    have hxz : b < x.heap.size := hcur.2.2.1
    have hlt : i < 12 := (Array.getElem?_eq_some_iff.1 ho).1
    rcases (show i = 0 ∨ i = 1 ∨ i = 2 ∨ i = 3 ∨ i = 4 ∨ i = 5 ∨ i = 6 ∨ i = 7 ∨ i = 8 ∨ i = 9 ∨ i = 10 ∨ i = 11 by omega) with rfl | rfl | rfl | rfl | rfl | rfl | rfl | rfl | rfl | rfl | rfl | rfl
    all_goals obtain rfl := Option.some.inj ho
    · have hba := (Below.refl x.heap.size x).alloc (Nat.le_refl _) (.cells tabS0 2)
      have HK : Hid (K (frS b w.heap.size (upd t 4 (.slice (some ⟨x.heap.size, 0, none⟩) 5 5))) (x.alloc (.cells tabS0 2))) := hK _ _ ⟨_, rfl, hcur.kept hba hxz, hbes.below hba, by simp; omega, C.put hi (by omega) (fun j hj hne => dS_inj (by omega) hj hne) (fun j u hj h => GS.keep (Keep.alloc b x _) hbn j u hj h) ⟨x.heap.size, rfl, heap_alloc_new x _, by omega⟩⟩
      unfold frS
      go_simp
      exact HK.out
    · have HK : Hid (K (frS b w.heap.size (upd t 5 (.pointer (some ⟨b, 0, none⟩)))) x) := hK _ _ ⟨_, rfl, hcur, hbes, hsz, C.put hi (by omega) (fun j hj hne => dS_inj (by omega) hj hne) (fun j u hj h => GS.keep (Keep.refl b x) hbn j u hj h) rfl⟩
      unfold frS
      go_simp
      exact HK.out
    · have l1 := hdep { on := 1, ground := Ground.data } (by simp) rfl
      have e5 : t 5 = .pointer (some ⟨b, 0, none⟩) := C.got hi (by omega) 1 (by omega) l1
      refine step_call2 rfl 75 (.tmp 5) (.const (.int .i64 5)) _ rfl (.pointer (some ⟨b, 0, none⟩)) (.int .i64 5) e5 rfl (hent _) (fun u y => ∃ z : Int, u = .int .i64 z ∧ 0 ≤ z ∧ z < 5 ∧ Cur y b sa sl sc ∧ Beside b x y) ((l1Below b sa sl sc 5 (by decide) (by decide) x hcur).mono fun e y ⟨z, h0, h1, h2, h3, h4⟩ => ⟨_, h0, z, rfl, h1, h2, h3, h4⟩) ?_
      rintro u y ⟨z, rfl, hz0, hz1, hc1, hb1⟩
      exact hK _ _ ⟨upd t 6 (.int .i64 z), rfl, hc1, hbes.trans hb1, Nat.le_trans hsz hb1.2.2.2.1, C.put hi (by omega) (fun j hj hne => dS_inj (by omega) hj hne) (fun j u hj h => GS.keep hb1.keep hbn j u hj h) ⟨z.toNat, by rw [Int.toNat_of_nonneg hz0], by omega⟩⟩
    · have l0 := hdep { on := 0, ground := Ground.data } (by simp) rfl
      have l2 := hdep { on := 2, ground := Ground.data } (by simp) rfl
      obtain ⟨g, e4, hT⟩ : hasTabT b x (t 4) 5 tabS0 2 := C.got hi (by omega) 0 (by omega) l0
      obtain ⟨z, e6, hz⟩ : hasNum (t 6) 5 := C.got hi (by omega) 2 (by omega) l2
      have hzI : (z : Int) < 5 := by omega
      have HK : Hid (K (frS b w.heap.size (upd t 7 (.pointer (some ⟨g, z, none⟩)))) x) := hK _ _ ⟨_, rfl, hcur, hbes, hsz, C.put hi (by omega) (fun j hj hne => dS_inj (by omega) hj hne) (fun j u hj h => GS.keep (Keep.refl b x) hbn j u hj h) ⟨g, z, rfl, hz, hT⟩⟩
      unfold frS
      go_simp
      have h2 := HK.out
      unfold frS upd at h2
      simpa [e4, e6] using h2
    · have l3 := hdep { on := 3, ground := Ground.data } (by simp) rfl
      obtain ⟨g, z, e7, hz, hT⟩ : hasPtT b x (t 7) 5 tabS0 2 := C.got hi (by omega) 3 (by omega) l3
      obtain ⟨s, hs⟩ := tabS0_at z hz
      have c0 : x.cell? ⟨g, z, none⟩ = some (.int .i64 s) := by rw [cell_of_row x g z _ _ _ hT.1]; exact hs
      have HK : Hid (K (frS b w.heap.size (upd t 8 (.int .i64 s))) x) := hK _ _ ⟨_, rfl, hcur, hbes, hsz, C.put hi (by omega) (fun j hj hne => dS_inj (by omega) hj hne) (fun j u hj h => GS.keep (Keep.refl b x) hbn j u hj h) ⟨s, rfl⟩⟩
      unfold frS
      go_simp
      have h2 := HK.out
      unfold frS upd at h2
      simpa [e7] using h2
    · have HK : Hid (K (frS b w.heap.size (upd t 9 (.pointer (some ⟨b, 0, none⟩)))) x) := hK _ _ ⟨_, rfl, hcur, hbes, hsz, C.put hi (by omega) (fun j hj hne => dS_inj (by omega) hj hne) (fun j u hj h => GS.keep (Keep.refl b x) hbn j u hj h) rfl⟩
      unfold frS
      go_simp
      exact HK.out
    · have l1 := hdep { on := 5, ground := Ground.data } (by simp) rfl
      have e5 : t 9 = .pointer (some ⟨b, 0, none⟩) := C.got hi (by omega) 5 (by omega) l1
      refine step_call1 rfl 109 (.tmp 9) _ rfl (.pointer (some ⟨b, 0, none⟩)) e5 (hent4 _) (fun u y => ∃ l, OwnsF y x.heap.size u l ∧ SmallF l ∧ Cur y b sa sl sc ∧ Beside b x y) ((l4Draw b sa sl sc x hcur).mono fun e y ⟨⟨u, l, h0, h1, h2⟩, h3, h4⟩ => ⟨u, h0, l, h1, h2, h3, h4⟩) ?_
      rintro u y ⟨l, ho1, hs1, hc1, hb1⟩
      exact hK _ _ ⟨upd t 10 u, rfl, hc1, hbes.trans hb1, Nat.le_trans hsz hb1.2.2.2.1, C.put hi (by omega) (fun j hj hne => dS_inj (by omega) hj hne) (fun j u hj h => GS.keep hb1.keep hbn j u hj h) ⟨l, ho1.low hsz, hs1⟩⟩
    · have HK : Hid (K (frS b w.heap.size (upd t 11 (.pointer (some ⟨b, 0, none⟩)))) x) := hK _ _ ⟨_, rfl, hcur, hbes, hsz, C.put hi (by omega) (fun j hj hne => dS_inj (by omega) hj hne) (fun j u hj h => GS.keep (Keep.refl b x) hbn j u hj h) rfl⟩
      unfold frS
      go_simp
      exact HK.out
    · have l1 := hdep { on := 7, ground := Ground.data } (by simp) rfl
      have e5 : t 11 = .pointer (some ⟨b, 0, none⟩) := C.got hi (by omega) 7 (by omega) l1
      refine step_call rfl 41 #[.tmp 11, .const (.string ⟨#[97, 98, 13, 10]⟩), .const (.int .i64 8)] _ rfl #[.pointer (some ⟨b, 0, none⟩), .string ⟨#[97, 98, 13, 10]⟩, .int .i64 8] (by simp only [List.map_toArray, List.map_cons, List.map_nil]; rw [show (frS b w.heap.size t).eval (.tmp 11) = t 11 from rfl, e5]; rfl) (hent1 _) (fun u y => ∃ s : ByteArray, u = .string s ∧ s.size ≤ 8 ∧ Cur y b sa sl sc ∧ Beside b x y) ((l1DrawText b sa sl sc ⟨#[97, 98, 13, 10]⟩ 8 (by decide) (by decide) (by omega) x hcur).mono fun e y ⟨s, h0, h1, h2, h3⟩ => ⟨_, h0, s, rfl, h1, h2, h3⟩) ?_
      rintro u y ⟨s, rfl, hs1, hc1, hb1⟩
      exact hK _ _ ⟨upd t 12 (.string s), rfl, hc1, hbes.trans hb1, Nat.le_trans hsz hb1.2.2.2.1, C.put hi (by omega) (fun j hj hne => dS_inj (by omega) hj hne) (fun j u hj h => GS.keep hb1.keep hbn j u hj h) ⟨s, rfl, hs1⟩⟩
    · have l4 := hdep { on := 4, ground := Ground.data } (by simp) rfl
      have l6 := hdep { on := 6, ground := Ground.data } (by simp) rfl
      have l8 := hdep { on := 8, ground := Ground.data } (by simp) rfl
      obtain ⟨p, e8⟩ : hasIt (t 8) := C.got hi (by omega) 4 (by omega) l4
      obtain ⟨l, ho, hl⟩ : hasFl0 (w.heap.size + 1) x (t 10) := C.got hi (by omega) 6 (by omega) l6
      obtain ⟨s, e12, hs⟩ : hasTxt (t 12) 8 := C.got hi (by omega) 8 (by omega) l8
      obtain ⟨A5, cap5, e10, _⟩ := ho.form
      rw [e10] at ho
      have HK : Hid (K (frS b w.heap.size (upd t 13 (.agg #[.int .i64 p, .slice A5 l.length cap5, .string s]))) x) := hK _ _ ⟨_, rfl, hcur, hbes, hsz, C.put hi (by omega) (fun j hj hne => dS_inj (by omega) hj hne) (fun j u hj h => GS.keep (Keep.refl b x) hbn j u hj h) ⟨⟨p, l, s⟩, .slice A5 l.length cap5, rfl, ho, hl, by show s.size ≤ 4100; omega⟩⟩
      unfold frS
      go_simp
      have h2 := HK.out
      unfold frS upd at h2
      simpa [e8, e10, e12] using h2
    · have hba := (Below.refl x.heap.size x).alloc (Nat.le_refl _) (.cells #[.int .i64 0, .slice none 0 0, .string ⟨#[]⟩] 26)
      have HK : Hid (K (frS b w.heap.size (upd t 3 (.pointer (some ⟨x.heap.size, 0, none⟩)))) (x.alloc (.cells #[.int .i64 0, .slice none 0 0, .string ⟨#[]⟩] 26))) := hK _ _ ⟨_, rfl, hcur.kept hba hxz, hbes.below hba, by simp; omega, C.put hi (by omega) (fun j hj hne => dS_inj (by omega) hj hne) (fun j u hj h => GS.keep (Keep.alloc b x _) hbn j u hj h) ⟨x.heap.size, rfl, heap_alloc_new x _, by omega, hsz⟩⟩
      unfold frS
      go_simp
      exact HK.out
    · have ph : ∀ j, j < 11 → L j = true := fun j hj => by
        rcases (show j = 0 ∨ j = 1 ∨ j = 2 ∨ j = 3 ∨ j = 4 ∨ j = 5 ∨ j = 6 ∨ j = 7 ∨ j = 8 ∨ j = 9 ∨ j = 10 by omega) with rfl | rfl | rfl | rfl | rfl | rfl | rfl | rfl | rfl | rfl | rfl <;> exact hdep { on := _, ground := Ground.phase } (by simp) rfl
      obtain ⟨r, u, e13, ho, hsm⟩ : hasS (w.heap.size + 1) x (t 13) := C.got hi (Nat.le_refl _) 9 (by omega) (ph 9 (by omega))
      obtain ⟨g, e3, hT⟩ : hasBoxS b w.heap.size x (t 3) := C.got hi (Nat.le_refl _) 10 (by omega) (ph 10 (by omega))
      obtain ⟨A5, cap5, rfl, _⟩ := ho.form
      obtain ⟨c0, c1, c2, ff⟩ := box3 hT.1
      have hbs := (((Below.refl (w.heap.size + 1) x).setCell (p := ⟨g, 0, none⟩) hT.2.2 (.int .i64 r.s)).setCell (p := ⟨g, 1, none⟩) hT.2.2 (.slice A5 r.l.length cap5)).setCell (p := ⟨g, 2, none⟩) hT.2.2 (.string r.b)
      have h1 := heap_setCell_same x g 0 _ _ (.int .i64 r.s) hT.1
      have o1 := ho.besides (k := 0) hT.1 (by decide) (.int .i64 r.s)
      have h2 := heap_setCell_same _ g 1 _ _ (.slice A5 r.l.length cap5) h1
      have o2 := o1.besides (k := 1) h1 (by decide) (.slice A5 r.l.length cap5)
      have h3 := heap_setCell_same _ g 2 _ _ (.string r.b) h2
      have o3 := o2.besides (k := 2) h2 (by decide) (.string r.b)
      have HK : Hid (K (frS b w.heap.size t) (((x.setCell ⟨g, 0, none⟩ (.int .i64 r.s)).setCell ⟨g, 1, none⟩ (.slice A5 r.l.length cap5)).setCell ⟨g, 2, none⟩ (.string r.b))) := hK _ _ ⟨_, rfl, hcur.kept hbs (by omega), hbes.grow hbs (by simp), Nat.le_trans hsz hbs.size, CondG.last ph ⟨g, r, _, e3, ⟨h3, hT.2⟩, o3, hsm⟩⟩
      unfold rsV at e13
      clear h1 h2 h3 o1 o2 o3 hbs
      unfold frS
      go_simp
      have h2 := HK.out
      unfold frS at h2
      simpa [e3, e13] using h2
  case back =>
    intro i o ho
    have hlt : i < 12 := (Array.getElem?_eq_some_iff.1 ho).1
    rcases (show i = 0 ∨ i = 1 ∨ i = 2 ∨ i = 3 ∨ i = 4 ∨ i = 5 ∨ i = 6 ∨ i = 7 ∨ i = 8 ∨ i = 9 ∨ i = 10 ∨ i = 11 by omega) with rfl | rfl | rfl | rfl | rfl | rfl | rfl | rfl | rfl | rfl | rfl | rfl
    all_goals
      obtain rfl := Option.some.inj ho
      intro e he _
      refine back_of ?_ e he
      kernel_rfl
  case done =>
    intro L a x hall hI
    obtain ⟨t, rfl, hcur, hbes, hsz, C⟩ := hI
    obtain ⟨g, r, u, e3, hT, ho, hsm⟩ := (C.en (hall 11 (by decide))).2
    clear C hall
    obtain ⟨A5, cap5, rfl, _⟩ := ho.form
    obtain ⟨s3, s4⟩ := hsm
    have rX : x.heap[w.heap.size]? = some (.cells #[.int .i64 0, .slice none 0 0, .string ⟨#[]⟩] 26) := hbes.at (by omega) (heap_alloc_new w _)
    have hbW : Beside b w x := ((Beside.refl b w).below hb0).trans hbes
    have hgb : g ≠ b := hT.2.1
    have hgn : w.heap.size < g := hT.2.2
    have tX := hT.1
    have gne := own_ne ho tX (by decide)
    clear hbes hT hc
    unfold frS
    rw [e3]
    obtain ⟨q0, q1, q2, qf⟩ := box3 tX
    go_wp2_with fail
    refine (specBare r.s x).mono ?_
    rintro e y1 ⟨rfl, rfl⟩
    cases hbr : bareB r.s with
    | false =>
      have tY := tX
      have rY := rX
      have oY := ho
      have cY := hcur
      have wY := hbW
      clear tX rX ho hcur hbW hbr q0 q1 q2 qf
      go_wp2_with fail
      refine (l1Once b sa sl sc 12 (by decide) (by decide) x cY).mono ?_
      rintro e y5 ⟨t5, rfl, hc5, hb5⟩
      have r5 := hb5.at (by omega) rY
      have t5' := hb5.at hgb tY
      have o5 := oY.keep hb5.keep hbn
      have w5 := wY.trans hb5
      clear rY tY oY hb5 wY cY
      cases t5 with
      | false =>
        have T9 := t5'
        have R9 := r5
        have HO9 : Hid (OwnsF y5 (w.heap.size + 1) (.slice A5 r.l.length cap5) r.l) := o5
        have HC9 : Hid (Cur y5 b sa sl sc) := hc5
        have HB9 : Hid (Beside b w y5) := w5
        clear t5' r5 o5 hc5 w5
        obtain ⟨c0, c1, c2, cf⟩ := box3 T9
        obtain ⟨d0, d1, d2, df⟩ := box3 R9
        have hgn' : w.heap.size ≠ g := by omega
        clear T9 R9
        go_wp2
        refine bodyPost_ret (v := .agg #[.int .i64 (r.s), .slice A5 r.l.length cap5, .string r.b]) (by simp [results, Tryz.results76, go_sem, d0, d1, d2]) rfl ⟨⟨⟨r.s, r.l, r.b⟩, .slice A5 r.l.length cap5, rfl, ?_, ⟨s3.more, s4⟩⟩, ?_, ?_⟩
        · refine OwnsF.low (B := w.heap.size + 1) ?_ (by omega)
          repeat (first | (with_reducible refine OwnsF.farG ?_ ?_ _; rotate_left; omega) | (with_reducible refine OwnsF.butG ?_ gne _) | (with_reducible refine OwnsF.alloc ?_ _))
          exact HO9.out
        · repeat (first | (with_reducible refine Cur.far ?_ ?_ _; rotate_left; omega) | (with_reducible refine Cur.more ?_ _))
          exact HC9.out
        · repeat (first | (with_reducible refine Beside.far ?_ ?_ _; rotate_left; omega) | (with_reducible refine Beside.more ?_ _))
          exact HB9.out
      | true =>
        go_wp2_with fail
        refine (l1Below b sa sl sc 2 (by decide) (by decide) y5 hc5).mono ?_
        rintro e y6 ⟨z, rfl, hz0, hz1, hc6, hb6⟩
        have r6 := hb6.at (by omega) r5
        have t6 := hb6.at hgb t5'
        have o6 := o5.keep hb6.keep hbn
        have w6 := w5.trans hb6
        have hy6 : b < y6.heap.size := hc6.2.2.1
        clear r5 t5' o5 hb6 w5 hc5
        rcases (show z = 0 ∨ z = 1 by omega) with rfl | rfl
        · have hba := (Below.refl y6.heap.size y6).alloc (Nat.le_refl _) (.cells tabS1 2)
          have ta := heap_alloc_new y6 (.cells tabS1 2)
          go_wp2_with fail
          refine (l1Below b sa sl sc 4 (by decide) (by decide) (y6.alloc (.cells tabS1 2)) (hc6.kept hba hy6)).mono ?_
          rintro e y7 ⟨z, rfl, hw0, hw1, hc7, hb7⟩
          obtain ⟨k, rfl⟩ : ∃ k : Nat, z = k := ⟨z.toNat, by omega⟩
          have r7 := hb7.at (by omega) (below_block r6 hba)
          have t7 := hb7.at hgb (below_block t6 hba)
          have o7 := (o6.alloc (.cells tabS1 2)).keep hb7.keep hbn
          have ta7 := hb7.at (by omega) ta
          have w7 := (w6.below hba).trans hb7
          obtain ⟨s, hs⟩ := tabS1_at k (by omega)
          have cs : y7.cell? ⟨y6.heap.size, k, none⟩ = some (.int .i64 s) := by rw [cell_of_row y7 _ k _ _ _ ta7]; exact hs
          obtain ⟨b0, b1, b2, bf⟩ := box3 t7
          have T9 := heap_setCell_same y7 g 0 _ _ (.int .i64 s) t7
          have R9 : (y7.setCell ⟨g, 0, none⟩ (.int .i64 s)).heap[w.heap.size]? = some (.cells #[.int .i64 0, .slice none 0 0, .string ⟨#[]⟩] 26) := by rw [heap_setCell_other y7 ⟨g, 0, none⟩ w.heap.size _ (by show w.heap.size ≠ g; omega)]; exact r7
          have gne := own_ne o7 t7 (by decide)
          have HO9 : Hid (OwnsF y7 (w.heap.size + 1) (.slice A5 r.l.length cap5) r.l) := o7
          have HC9 : Hid (Cur y7 b sa sl sc) := hc7
          have HB9 : Hid (Beside b w y7) := w7
          have hgn3 : y6.heap.size ≠ g := fun e => by rw [← e] at t6; have := (Array.getElem?_eq_some_iff.1 t6).1; omega
          clear ta ta7 r6 t6 r7 t7 o6 o7 hb7 hba hs w6 w7 hc6 hc7
          obtain ⟨c0, c1, c2, cf⟩ := box3 T9
          obtain ⟨d0, d1, d2, df⟩ := box3 R9
          have hgn' : w.heap.size ≠ g := by omega
          clear T9 R9
          go_wp2
          refine bodyPost_ret (v := .agg #[.int .i64 (s), .slice A5 r.l.length cap5, .string r.b]) (by simp [results, Tryz.results76, go_sem, d0, d1, d2]) rfl ⟨⟨⟨s, r.l, r.b⟩, .slice A5 r.l.length cap5, rfl, ?_, ⟨s3.more, s4⟩⟩, ?_, ?_⟩
          · refine OwnsF.low (B := w.heap.size + 1) ?_ (by omega)
            repeat (first | (with_reducible refine OwnsF.farG ?_ ?_ _; rotate_left; omega) | (with_reducible refine OwnsF.butG ?_ gne _) | (with_reducible refine OwnsF.alloc ?_ _))
            exact HO9.out
          · repeat (first | (with_reducible refine Cur.far ?_ ?_ _; rotate_left; omega) | (with_reducible refine Cur.more ?_ _))
            exact HC9.out
          · repeat (first | (with_reducible refine Beside.far ?_ ?_ _; rotate_left; omega) | (with_reducible refine Beside.more ?_ _))
            exact HB9.out
        · have hnz : w.heap.size < y6.heap.size := (Array.getElem?_eq_some_iff.1 r6).1
          obtain ⟨b0, b1, b2, bf⟩ := box3 t6
          have HO2 : Hid (OwnsF y6 (w.heap.size + 1) (.slice A5 r.l.length cap5) r.l) := o6
          have HT2 : Hid (y6.heap[g]? = some (.cells #[.int .i64 r.s, .slice A5 r.l.length cap5, .string r.b] 26)) := t6
          have HR2 : Hid (y6.heap[w.heap.size]? = some (.cells #[.int .i64 0, .slice none 0 0, .string ⟨#[]⟩] 26)) := r6
          have hl5 : r.l.length ≤ 31 := s3.1
          clear t6 r6 o6
          go_wp2_with (at_builtin; refine wpList_pushF _ rfl (.tmp 38) (.tmp 40) rfl (w.heap.size + 1) _ r.l teF rfl HO2.out rfl (by omega) (by omega) ?_; intro v3 y7 ho3 hg3; have hown3 : ∀ k, (Value.slice A5 r.l.length cap5).ownBlock = some k → w.heap.size + 1 ≤ k := OwnsF.from HO2.out; have gne0 : ∀ k, (Value.slice A5 r.l.length cap5).ownBlock = some k → k ≠ g := own_ne HO2.out HT2.out (by decide); have t7 : y7.heap[g]? = some (.cells #[.int .i64 r.s, .slice A5 r.l.length cap5, .string r.b] 26) := (by rw [hg3.block g (Array.getElem?_eq_some_iff.1 HT2.out).1 (fun e => gne0 g e.symm rfl)]; exact HT2.out); have r7 : y7.heap[w.heap.size]? = some (.cells #[.int .i64 0, .slice none 0 0, .string ⟨#[]⟩] 26) := (by rw [hg3.block w.heap.size (Array.getElem?_eq_some_iff.1 HR2.out).1 (fun e => by have := hown3 _ e.symm; omega)]; exact HR2.out); have HC9 : Hid (Cur y7 b sa sl sc) := hc6.kept (grown_low hg3 (fun k hk => hown3 k hk) (by omega)) (by omega); have HB9 : Hid (Beside b w y7) := w6.grown hg3 (fun k hk => by have := hown3 k hk; omega); have f3' := ho3.form; obtain ⟨A6, cap6, rfl, _⟩ := f3'; obtain ⟨n6, hn6⟩ : ∃ n, (r.l ++ [teF]).length = n := ⟨_, rfl⟩; rw [hn6] at ho3 ⊢; have b0' := (box3 t7).1; have b1' := (box3 t7).2.1; have b2' := (box3 t7).2.2.1; have bf' := (box3 t7).2.2.2; have T9 := heap_setCell_same y7 g 1 _ _ (.slice A6 n6 cap6) t7; have R9 : (y7.setCell ⟨g, 1, none⟩ (.slice A6 n6 cap6)).heap[w.heap.size]? = some (.cells #[.int .i64 0, .slice none 0 0, .string ⟨#[]⟩] 26) := (by rw [heap_setCell_other y7 ⟨g, 1, none⟩ w.heap.size _ (by show w.heap.size ≠ g; omega)]; exact r7); have gne := own_ne ho3 t7 (by decide); have HO9 : Hid (OwnsF y7 (w.heap.size + 1) (.slice A6 n6 cap6) (r.l ++ [teF])) := ho3; obtain ⟨c0, c1, c2, cf⟩ := box3 T9; obtain ⟨d0, d1, d2, df⟩ := box3 R9; have hgn' : w.heap.size ≠ g := (by omega); clear T9 R9 t7 r7 ho3 hg3; have HN6 : Hid (r.l.length ≤ 39) := (by show r.l.length ≤ 39; omega); clear hn6)
          refine bodyPost_ret (v := .agg #[.int .i64 r.s, .slice A6 n6 cap6, .string r.b]) (by simp [results, Tryz.results76, go_sem, d0, d1, d2]) rfl ⟨⟨⟨r.s, r.l ++ [teF], r.b⟩, .slice A6 n6 cap6, rfl, ?_, ⟨small_more s3.more HN6.out teF (by decide), s4⟩⟩, ?_, ?_⟩
          · refine OwnsF.low (B := w.heap.size + 1) ?_ (by omega)
            repeat (first | (with_reducible refine OwnsF.farG ?_ ?_ _; rotate_left; omega) | (with_reducible refine OwnsF.butG ?_ gne _) | (with_reducible refine OwnsF.alloc ?_ _))
            exact HO9.out
          · repeat (first | (with_reducible refine Cur.far ?_ ?_ _; rotate_left; omega) | (with_reducible refine Cur.more ?_ _))
            exact HC9.out
          · repeat (first | (with_reducible refine Beside.far ?_ ?_ _; rotate_left; omega) | (with_reducible refine Beside.more ?_ _))
            exact HB9.out
    | true =>
      go_wp2_with fail
      refine (l1Once b sa sl sc 8 (by decide) (by decide) x hcur).mono ?_
      rintro e y2 ⟨tt, rfl, hc2, hb2⟩
      have rY := hb2.at (by omega) rX
      have tY := hb2.at hgb tX
      have oY := ho.keep hb2.keep hbn
      have wY := hbW.trans hb2
      have cY := hc2
      clear tX rX ho hcur hbW hbr hb2 hc2 q0 q1 q2 qf
      cases tt with
      | true =>
        go_wp2_with fail
        refine (l1Once b sa sl sc 12 (by decide) (by decide) y2 cY).mono ?_
        rintro e y5 ⟨t5, rfl, hc5, hb5⟩
        have r5 := hb5.at (by omega) rY
        have t5' := hb5.at hgb tY
        have o5 := oY.keep hb5.keep hbn
        have w5 := wY.trans hb5
        clear rY tY oY hb5 wY cY
        cases t5 with
        | false =>
          have T9 := t5'
          have R9 := r5
          have HO9 : Hid (OwnsF y5 (w.heap.size + 1) (.slice A5 r.l.length cap5) r.l) := o5
          have HC9 : Hid (Cur y5 b sa sl sc) := hc5
          have HB9 : Hid (Beside b w y5) := w5
          clear t5' r5 o5 hc5 w5
          obtain ⟨c0, c1, c2, cf⟩ := box3 T9
          obtain ⟨d0, d1, d2, df⟩ := box3 R9
          have hgn' : w.heap.size ≠ g := by omega
          clear T9 R9
          go_wp2
          refine bodyPost_ret (v := .agg #[.int .i64 (r.s), .slice A5 r.l.length cap5, .string r.b]) (by simp [results, Tryz.results76, go_sem, d0, d1, d2]) rfl ⟨⟨⟨r.s, r.l, r.b⟩, .slice A5 r.l.length cap5, rfl, ?_, ⟨s3.more, s4⟩⟩, ?_, ?_⟩
          · refine OwnsF.low (B := w.heap.size + 1) ?_ (by omega)
            repeat (first | (with_reducible refine OwnsF.farG ?_ ?_ _; rotate_left; omega) | (with_reducible refine OwnsF.butG ?_ gne _) | (with_reducible refine OwnsF.alloc ?_ _))
            exact HO9.out
          · repeat (first | (with_reducible refine Cur.far ?_ ?_ _; rotate_left; omega) | (with_reducible refine Cur.more ?_ _))
            exact HC9.out
          · repeat (first | (with_reducible refine Beside.far ?_ ?_ _; rotate_left; omega) | (with_reducible refine Beside.more ?_ _))
            exact HB9.out
        | true =>
          go_wp2_with fail
          refine (l1Below b sa sl sc 2 (by decide) (by decide) y5 hc5).mono ?_
          rintro e y6 ⟨z, rfl, hz0, hz1, hc6, hb6⟩
          have r6 := hb6.at (by omega) r5
          have t6 := hb6.at hgb t5'
          have o6 := o5.keep hb6.keep hbn
          have w6 := w5.trans hb6
          have hy6 : b < y6.heap.size := hc6.2.2.1
          clear r5 t5' o5 hb6 w5 hc5
          rcases (show z = 0 ∨ z = 1 by omega) with rfl | rfl
          · have hba := (Below.refl y6.heap.size y6).alloc (Nat.le_refl _) (.cells tabS1 2)
            have ta := heap_alloc_new y6 (.cells tabS1 2)
            go_wp2_with fail
            refine (l1Below b sa sl sc 4 (by decide) (by decide) (y6.alloc (.cells tabS1 2)) (hc6.kept hba hy6)).mono ?_
            rintro e y7 ⟨z, rfl, hw0, hw1, hc7, hb7⟩
            obtain ⟨k, rfl⟩ : ∃ k : Nat, z = k := ⟨z.toNat, by omega⟩
            have r7 := hb7.at (by omega) (below_block r6 hba)
            have t7 := hb7.at hgb (below_block t6 hba)
            have o7 := (o6.alloc (.cells tabS1 2)).keep hb7.keep hbn
            have ta7 := hb7.at (by omega) ta
            have w7 := (w6.below hba).trans hb7
            obtain ⟨s, hs⟩ := tabS1_at k (by omega)
            have cs : y7.cell? ⟨y6.heap.size, k, none⟩ = some (.int .i64 s) := by rw [cell_of_row y7 _ k _ _ _ ta7]; exact hs
            obtain ⟨b0, b1, b2, bf⟩ := box3 t7
            have T9 := heap_setCell_same y7 g 0 _ _ (.int .i64 s) t7
            have R9 : (y7.setCell ⟨g, 0, none⟩ (.int .i64 s)).heap[w.heap.size]? = some (.cells #[.int .i64 0, .slice none 0 0, .string ⟨#[]⟩] 26) := by rw [heap_setCell_other y7 ⟨g, 0, none⟩ w.heap.size _ (by show w.heap.size ≠ g; omega)]; exact r7
            have gne := own_ne o7 t7 (by decide)
            have HO9 : Hid (OwnsF y7 (w.heap.size + 1) (.slice A5 r.l.length cap5) r.l) := o7
            have HC9 : Hid (Cur y7 b sa sl sc) := hc7
            have HB9 : Hid (Beside b w y7) := w7
            have hgn3 : y6.heap.size ≠ g := fun e => by rw [← e] at t6; have := (Array.getElem?_eq_some_iff.1 t6).1; omega
            clear ta ta7 r6 t6 r7 t7 o6 o7 hb7 hba hs w6 w7 hc6 hc7
            obtain ⟨c0, c1, c2, cf⟩ := box3 T9
            obtain ⟨d0, d1, d2, df⟩ := box3 R9
            have hgn' : w.heap.size ≠ g := by omega
            clear T9 R9
            go_wp2
            refine bodyPost_ret (v := .agg #[.int .i64 (s), .slice A5 r.l.length cap5, .string r.b]) (by simp [results, Tryz.results76, go_sem, d0, d1, d2]) rfl ⟨⟨⟨s, r.l, r.b⟩, .slice A5 r.l.length cap5, rfl, ?_, ⟨s3.more, s4⟩⟩, ?_, ?_⟩
            · refine OwnsF.low (B := w.heap.size + 1) ?_ (by omega)
              repeat (first | (with_reducible refine OwnsF.farG ?_ ?_ _; rotate_left; omega) | (with_reducible refine OwnsF.butG ?_ gne _) | (with_reducible refine OwnsF.alloc ?_ _))
              exact HO9.out
            · repeat (first | (with_reducible refine Cur.far ?_ ?_ _; rotate_left; omega) | (with_reducible refine Cur.more ?_ _))
              exact HC9.out
            · repeat (first | (with_reducible refine Beside.far ?_ ?_ _; rotate_left; omega) | (with_reducible refine Beside.more ?_ _))
              exact HB9.out
          · have hnz : w.heap.size < y6.heap.size := (Array.getElem?_eq_some_iff.1 r6).1
            obtain ⟨b0, b1, b2, bf⟩ := box3 t6
            have HO2 : Hid (OwnsF y6 (w.heap.size + 1) (.slice A5 r.l.length cap5) r.l) := o6
            have HT2 : Hid (y6.heap[g]? = some (.cells #[.int .i64 r.s, .slice A5 r.l.length cap5, .string r.b] 26)) := t6
            have HR2 : Hid (y6.heap[w.heap.size]? = some (.cells #[.int .i64 0, .slice none 0 0, .string ⟨#[]⟩] 26)) := r6
            have hl5 : r.l.length ≤ 31 := s3.1
            clear t6 r6 o6
            go_wp2_with (at_builtin; refine wpList_pushF _ rfl (.tmp 38) (.tmp 40) rfl (w.heap.size + 1) _ r.l teF rfl HO2.out rfl (by omega) (by omega) ?_; intro v3 y7 ho3 hg3; have hown3 : ∀ k, (Value.slice A5 r.l.length cap5).ownBlock = some k → w.heap.size + 1 ≤ k := OwnsF.from HO2.out; have gne0 : ∀ k, (Value.slice A5 r.l.length cap5).ownBlock = some k → k ≠ g := own_ne HO2.out HT2.out (by decide); have t7 : y7.heap[g]? = some (.cells #[.int .i64 r.s, .slice A5 r.l.length cap5, .string r.b] 26) := (by rw [hg3.block g (Array.getElem?_eq_some_iff.1 HT2.out).1 (fun e => gne0 g e.symm rfl)]; exact HT2.out); have r7 : y7.heap[w.heap.size]? = some (.cells #[.int .i64 0, .slice none 0 0, .string ⟨#[]⟩] 26) := (by rw [hg3.block w.heap.size (Array.getElem?_eq_some_iff.1 HR2.out).1 (fun e => by have := hown3 _ e.symm; omega)]; exact HR2.out); have HC9 : Hid (Cur y7 b sa sl sc) := hc6.kept (grown_low hg3 (fun k hk => hown3 k hk) (by omega)) (by omega); have HB9 : Hid (Beside b w y7) := w6.grown hg3 (fun k hk => by have := hown3 k hk; omega); have f3' := ho3.form; obtain ⟨A6, cap6, rfl, _⟩ := f3'; obtain ⟨n6, hn6⟩ : ∃ n, (r.l ++ [teF]).length = n := ⟨_, rfl⟩; rw [hn6] at ho3 ⊢; have b0' := (box3 t7).1; have b1' := (box3 t7).2.1; have b2' := (box3 t7).2.2.1; have bf' := (box3 t7).2.2.2; have T9 := heap_setCell_same y7 g 1 _ _ (.slice A6 n6 cap6) t7; have R9 : (y7.setCell ⟨g, 1, none⟩ (.slice A6 n6 cap6)).heap[w.heap.size]? = some (.cells #[.int .i64 0, .slice none 0 0, .string ⟨#[]⟩] 26) := (by rw [heap_setCell_other y7 ⟨g, 1, none⟩ w.heap.size _ (by show w.heap.size ≠ g; omega)]; exact r7); have gne := own_ne ho3 t7 (by decide); have HO9 : Hid (OwnsF y7 (w.heap.size + 1) (.slice A6 n6 cap6) (r.l ++ [teF])) := ho3; obtain ⟨c0, c1, c2, cf⟩ := box3 T9; obtain ⟨d0, d1, d2, df⟩ := box3 R9; have hgn' : w.heap.size ≠ g := (by omega); clear T9 R9 t7 r7 ho3 hg3; have HN6 : Hid (r.l.length ≤ 39) := (by show r.l.length ≤ 39; omega); clear hn6)
            refine bodyPost_ret (v := .agg #[.int .i64 r.s, .slice A6 n6 cap6, .string r.b]) (by simp [results, Tryz.results76, go_sem, d0, d1, d2]) rfl ⟨⟨⟨r.s, r.l ++ [teF], r.b⟩, .slice A6 n6 cap6, rfl, ?_, ⟨small_more s3.more HN6.out teF (by decide), s4⟩⟩, ?_, ?_⟩
            · refine OwnsF.low (B := w.heap.size + 1) ?_ (by omega)
              repeat (first | (with_reducible refine OwnsF.farG ?_ ?_ _; rotate_left; omega) | (with_reducible refine OwnsF.butG ?_ gne _) | (with_reducible refine OwnsF.alloc ?_ _))
              exact HO9.out
            · repeat (first | (with_reducible refine Cur.far ?_ ?_ _; rotate_left; omega) | (with_reducible refine Cur.more ?_ _))
              exact HC9.out
            · repeat (first | (with_reducible refine Beside.far ?_ ?_ _; rotate_left; omega) | (with_reducible refine Beside.more ?_ _))
              exact HB9.out
      | false =>
        obtain ⟨b0, b1, b2, bf⟩ := box3 tY
        have tY' := heap_setCell_same y2 g 2 _ _ (.string ⟨#[]⟩) tY
        have rY' : (y2.setCell ⟨g, 2, none⟩ (.string ⟨#[]⟩)).heap[w.heap.size]? = some (.cells #[.int .i64 0, .slice none 0 0, .string ⟨#[]⟩] 26) := by rw [heap_setCell_other y2 ⟨g, 2, none⟩ w.heap.size _ (by show w.heap.size ≠ g; omega)]; exact rY
        have oY' := oY.butG (k := 2) gne (.string ⟨#[]⟩)
        have cY' : Cur (y2.setCell ⟨g, 2, none⟩ (.string ⟨#[]⟩)) b sa sl sc := cY.far (by omega) _
        have wY' : Beside b w (y2.setCell ⟨g, 2, none⟩ (.string ⟨#[]⟩)) := wY.far (by omega) _
        go_wp2_with fail
        generalize y2.setCell ⟨g, 2, none⟩ (.string ⟨#[]⟩) = y3 at tY' rY' oY' cY' wY' ⊢
        clear tY rY oY cY wY b0 b1 b2 bf
        have tY : y3.heap[g]? = some (.cells #[.int .i64 r.s, .slice A5 r.l.length cap5, .string ⟨#[]⟩] 26) := tY'
        have rY := rY'
        have oY := oY'
        have cY := cY'
        have wY := wY'
        clear tY' rY' oY' cY' wY'
        go_wp2_with fail
        refine (l1Once b sa sl sc 12 (by decide) (by decide) y3 cY).mono ?_
        rintro e y5 ⟨t5, rfl, hc5, hb5⟩
        have r5 := hb5.at (by omega) rY
        have t5' := hb5.at hgb tY
        have o5 := oY.keep hb5.keep hbn
        have w5 := wY.trans hb5
        clear rY tY oY hb5 wY cY
        cases t5 with
        | false =>
          have T9 := t5'
          have R9 := r5
          have HO9 : Hid (OwnsF y5 (w.heap.size + 1) (.slice A5 r.l.length cap5) r.l) := o5
          have HC9 : Hid (Cur y5 b sa sl sc) := hc5
          have HB9 : Hid (Beside b w y5) := w5
          clear t5' r5 o5 hc5 w5
          obtain ⟨c0, c1, c2, cf⟩ := box3 T9
          obtain ⟨d0, d1, d2, df⟩ := box3 R9
          have hgn' : w.heap.size ≠ g := by omega
          clear T9 R9
          go_wp2
          refine bodyPost_ret (v := .agg #[.int .i64 (r.s), .slice A5 r.l.length cap5, .string ⟨#[]⟩]) (by simp [results, Tryz.results76, go_sem, d0, d1, d2]) rfl ⟨⟨⟨r.s, r.l, ⟨#[]⟩⟩, .slice A5 r.l.length cap5, rfl, ?_, ⟨s3.more, Nat.zero_le _⟩⟩, ?_, ?_⟩
          · refine OwnsF.low (B := w.heap.size + 1) ?_ (by omega)
            repeat (first | (with_reducible refine OwnsF.farG ?_ ?_ _; rotate_left; omega) | (with_reducible refine OwnsF.butG ?_ gne _) | (with_reducible refine OwnsF.alloc ?_ _))
            exact HO9.out
          · repeat (first | (with_reducible refine Cur.far ?_ ?_ _; rotate_left; omega) | (with_reducible refine Cur.more ?_ _))
            exact HC9.out
          · repeat (first | (with_reducible refine Beside.far ?_ ?_ _; rotate_left; omega) | (with_reducible refine Beside.more ?_ _))
            exact HB9.out
        | true =>
          go_wp2_with fail
          refine (l1Below b sa sl sc 2 (by decide) (by decide) y5 hc5).mono ?_
          rintro e y6 ⟨z, rfl, hz0, hz1, hc6, hb6⟩
          have r6 := hb6.at (by omega) r5
          have t6 := hb6.at hgb t5'
          have o6 := o5.keep hb6.keep hbn
          have w6 := w5.trans hb6
          have hy6 : b < y6.heap.size := hc6.2.2.1
          clear r5 t5' o5 hb6 w5 hc5
          rcases (show z = 0 ∨ z = 1 by omega) with rfl | rfl
          · have hba := (Below.refl y6.heap.size y6).alloc (Nat.le_refl _) (.cells tabS1 2)
            have ta := heap_alloc_new y6 (.cells tabS1 2)
            go_wp2_with fail
            refine (l1Below b sa sl sc 4 (by decide) (by decide) (y6.alloc (.cells tabS1 2)) (hc6.kept hba hy6)).mono ?_
            rintro e y7 ⟨z, rfl, hw0, hw1, hc7, hb7⟩
            obtain ⟨k, rfl⟩ : ∃ k : Nat, z = k := ⟨z.toNat, by omega⟩
            have r7 := hb7.at (by omega) (below_block r6 hba)
            have t7 := hb7.at hgb (below_block t6 hba)
            have o7 := (o6.alloc (.cells tabS1 2)).keep hb7.keep hbn
            have ta7 := hb7.at (by omega) ta
            have w7 := (w6.below hba).trans hb7
            obtain ⟨s, hs⟩ := tabS1_at k (by omega)
            have cs : y7.cell? ⟨y6.heap.size, k, none⟩ = some (.int .i64 s) := by rw [cell_of_row y7 _ k _ _ _ ta7]; exact hs
            obtain ⟨b0, b1, b2, bf⟩ := box3 t7
            have T9 := heap_setCell_same y7 g 0 _ _ (.int .i64 s) t7
            have R9 : (y7.setCell ⟨g, 0, none⟩ (.int .i64 s)).heap[w.heap.size]? = some (.cells #[.int .i64 0, .slice none 0 0, .string ⟨#[]⟩] 26) := by rw [heap_setCell_other y7 ⟨g, 0, none⟩ w.heap.size _ (by show w.heap.size ≠ g; omega)]; exact r7
            have gne := own_ne o7 t7 (by decide)
            have HO9 : Hid (OwnsF y7 (w.heap.size + 1) (.slice A5 r.l.length cap5) r.l) := o7
            have HC9 : Hid (Cur y7 b sa sl sc) := hc7
            have HB9 : Hid (Beside b w y7) := w7
            have hgn3 : y6.heap.size ≠ g := fun e => by rw [← e] at t6; have := (Array.getElem?_eq_some_iff.1 t6).1; omega
            clear ta ta7 r6 t6 r7 t7 o6 o7 hb7 hba hs w6 w7 hc6 hc7
            obtain ⟨c0, c1, c2, cf⟩ := box3 T9
            obtain ⟨d0, d1, d2, df⟩ := box3 R9
            have hgn' : w.heap.size ≠ g := by omega
            clear T9 R9
            go_wp2
            refine bodyPost_ret (v := .agg #[.int .i64 (s), .slice A5 r.l.length cap5, .string ⟨#[]⟩]) (by simp [results, Tryz.results76, go_sem, d0, d1, d2]) rfl ⟨⟨⟨s, r.l, ⟨#[]⟩⟩, .slice A5 r.l.length cap5, rfl, ?_, ⟨s3.more, Nat.zero_le _⟩⟩, ?_, ?_⟩
            · refine OwnsF.low (B := w.heap.size + 1) ?_ (by omega)
              repeat (first | (with_reducible refine OwnsF.farG ?_ ?_ _; rotate_left; omega) | (with_reducible refine OwnsF.butG ?_ gne _) | (with_reducible refine OwnsF.alloc ?_ _))
              exact HO9.out
            · repeat (first | (with_reducible refine Cur.far ?_ ?_ _; rotate_left; omega) | (with_reducible refine Cur.more ?_ _))
              exact HC9.out
            · repeat (first | (with_reducible refine Beside.far ?_ ?_ _; rotate_left; omega) | (with_reducible refine Beside.more ?_ _))
              exact HB9.out
          · have hnz : w.heap.size < y6.heap.size := (Array.getElem?_eq_some_iff.1 r6).1
            obtain ⟨b0, b1, b2, bf⟩ := box3 t6
            have HO2 : Hid (OwnsF y6 (w.heap.size + 1) (.slice A5 r.l.length cap5) r.l) := o6
            have HT2 : Hid (y6.heap[g]? = some (.cells #[.int .i64 r.s, .slice A5 r.l.length cap5, .string ⟨#[]⟩] 26)) := t6
            have HR2 : Hid (y6.heap[w.heap.size]? = some (.cells #[.int .i64 0, .slice none 0 0, .string ⟨#[]⟩] 26)) := r6
            have hl5 : r.l.length ≤ 31 := s3.1
            clear t6 r6 o6
            go_wp2_with (at_builtin; refine wpList_pushF _ rfl (.tmp 38) (.tmp 40) rfl (w.heap.size + 1) _ r.l teF rfl HO2.out rfl (by omega) (by omega) ?_; intro v3 y7 ho3 hg3; have hown3 : ∀ k, (Value.slice A5 r.l.length cap5).ownBlock = some k → w.heap.size + 1 ≤ k := OwnsF.from HO2.out; have gne0 : ∀ k, (Value.slice A5 r.l.length cap5).ownBlock = some k → k ≠ g := own_ne HO2.out HT2.out (by decide); have t7 : y7.heap[g]? = some (.cells #[.int .i64 r.s, .slice A5 r.l.length cap5, .string ⟨#[]⟩] 26) := (by rw [hg3.block g (Array.getElem?_eq_some_iff.1 HT2.out).1 (fun e => gne0 g e.symm rfl)]; exact HT2.out); have r7 : y7.heap[w.heap.size]? = some (.cells #[.int .i64 0, .slice none 0 0, .string ⟨#[]⟩] 26) := (by rw [hg3.block w.heap.size (Array.getElem?_eq_some_iff.1 HR2.out).1 (fun e => by have := hown3 _ e.symm; omega)]; exact HR2.out); have HC9 : Hid (Cur y7 b sa sl sc) := hc6.kept (grown_low hg3 (fun k hk => hown3 k hk) (by omega)) (by omega); have HB9 : Hid (Beside b w y7) := w6.grown hg3 (fun k hk => by have := hown3 k hk; omega); have f3' := ho3.form; obtain ⟨A6, cap6, rfl, _⟩ := f3'; obtain ⟨n6, hn6⟩ : ∃ n, (r.l ++ [teF]).length = n := ⟨_, rfl⟩; rw [hn6] at ho3 ⊢; have b0' := (box3 t7).1; have b1' := (box3 t7).2.1; have b2' := (box3 t7).2.2.1; have bf' := (box3 t7).2.2.2; have T9 := heap_setCell_same y7 g 1 _ _ (.slice A6 n6 cap6) t7; have R9 : (y7.setCell ⟨g, 1, none⟩ (.slice A6 n6 cap6)).heap[w.heap.size]? = some (.cells #[.int .i64 0, .slice none 0 0, .string ⟨#[]⟩] 26) := (by rw [heap_setCell_other y7 ⟨g, 1, none⟩ w.heap.size _ (by show w.heap.size ≠ g; omega)]; exact r7); have gne := own_ne ho3 t7 (by decide); have HO9 : Hid (OwnsF y7 (w.heap.size + 1) (.slice A6 n6 cap6) (r.l ++ [teF])) := ho3; obtain ⟨c0, c1, c2, cf⟩ := box3 T9; obtain ⟨d0, d1, d2, df⟩ := box3 R9; have hgn' : w.heap.size ≠ g := (by omega); clear T9 R9 t7 r7 ho3 hg3; have HN6 : Hid (r.l.length ≤ 39) := (by show r.l.length ≤ 39; omega); clear hn6)
            refine bodyPost_ret (v := .agg #[.int .i64 r.s, .slice A6 n6 cap6, .string ⟨#[]⟩]) (by simp [results, Tryz.results76, go_sem, d0, d1, d2]) rfl ⟨⟨⟨r.s, r.l ++ [teF], ⟨#[]⟩⟩, .slice A6 n6 cap6, rfl, ?_, ⟨small_more s3.more HN6.out teF (by decide), Nat.zero_le _⟩⟩, ?_, ?_⟩
            · refine OwnsF.low (B := w.heap.size + 1) ?_ (by omega)
              repeat (first | (with_reducible refine OwnsF.farG ?_ ?_ _; rotate_left; omega) | (with_reducible refine OwnsF.butG ?_ gne _) | (with_reducible refine OwnsF.alloc ?_ _))
              exact HO9.out
            · repeat (first | (with_reducible refine Cur.far ?_ ?_ _; rotate_left; omega) | (with_reducible refine Cur.more ?_ _))
              exact HC9.out
            · repeat (first | (with_reducible refine Beside.far ?_ ?_ _; rotate_left; omega) | (with_reducible refine Beside.more ?_ _))
              exact HB9.out
end Go.Proofs.YtemmgfnepdgpbaaGreatDoor
namespace Go.Proofs.YtemmgfnepdgpbaaGreatDoor
open Go.RowKit Go.Sort
set_option linter.unusedVariables false
set_option linter.unusedSimpArgs false

theorem make_text10 (w : World) (n : Nat) (hn : n ≤ 1000) : ∃ w', (Instr.makeSlice 22 (.int .i64 (n : Int)) (.int .i64 (n : Int))).run Tryz.prog w = .ok (.slice (some ⟨w.heap.size, 0, none⟩) n n) w' ∧ Below w.heap.size w w' ∧ ∃ t : ByteArray, t.size = n ∧ (convert 22 9 (.slice (some ⟨w.heap.size, 0, none⟩) n n)).run Tryz.prog w' = .ok (.string t) w' := by
  obtain ⟨i0, hi, hz0, hz1, hz2⟩ := info_parts Tryz.info5
  obtain ⟨w', h1, h2, h3⟩ := run_makeSlice_full (P := Tryz.prog) w w.heap.size 22 5 i0 (.int .u8 0) 1 Tryz.underlying22 hi hz0 hz1 .i64 .i64 n (by omega) (by rw [hz2]; omega) (by unfold maxLen; omega) (Nat.le_refl _)
  have hl : (madeCells (Value.int IntKind.u8 0).cells (n * 1)).toList = bytesV (List.replicate n 0) := by
    have e := toList_madeCells_one (.int .u8 0) (n * 1)
    rw [show (Value.int IntKind.u8 0).cells = #[.int .u8 0] from rfl, e, Nat.mul_one]
    unfold bytesV
    rw [List.map_replicate]
    rfl
  rw [hl] at h2
  have ho : OwnsB w' w.heap.size (.slice (some ⟨w.heap.size, 0, none⟩) n n) (List.replicate n 0) := by
    unfold OwnsB
    rw [List.length_replicate]
    exact h2
  refine ⟨w', h1, ⟨h3.os, h3.tape, h3.output, h3.size, fun k hk => h3.block k hk (by simp)⟩, _, ?_, ho.text⟩
  show (List.replicate n (0 : UInt8)).toArray.size = n
  simp

theorem SmallG.few {l : List Fl} (h : SmallG l) : FewG l := ⟨h.1, fun f hf => by have := h.2 f hf; omega⟩
/-- An object of the call's own in the block g, the result's block n as it was made. -/
structure LocO (y : World) (n g B : Nat) (o : Ob) (p u : Value) : Prop where
  lb : ObB y g o p u
  nb : ObB y n noO (.slice none 0 0) (.slice none 0 0)
  tb : ∃ c, y.heap[g]? = some (.cells c 28 (0, 0))
  op : OwnsF y B p o.l
  ou : OwnsF y B u o.r.l
theorem LocO.beside {b : Nat} {y z : World} {n g B : Nat} {o : Ob} {p u : Value} (h : LocO y n g B o p u) (hb : Beside b y z) (h1 : n ≠ b) (h2 : g ≠ b) (h3 : b < B) : LocO z n g B o p u := by
  obtain ⟨c, hc⟩ := h.tb
  exact ⟨h.lb.beside hb h2, h.nb.beside hb h1, ⟨c, besAt hb hc h2⟩, h.op.beside10 hb h3, h.ou.beside10 hb h3⟩
theorem ObB.put010 {w : World} {b : Nat} {o : Ob} {v u : Value} (h : ObB w b o v u) (t : ByteArray) : ObB (w.setCell ⟨b, 0, none⟩ (.string t)) b ⟨t, o.l, o.r, o.asked, o.got, o.ep⟩ v u where
  c0 := World.cell?_setCell_same _ _ _ h.c0
  c1 := by rw [World.cell?_setCell_other _ _ _ _ (by simp)]; exact h.c1
  c2 := by rw [World.cell?_setCell_other _ _ _ _ (by simp)]; exact h.c2
  c3 := by rw [World.cell?_setCell_other _ _ _ _ (by simp)]; exact h.c3
  c4 := by rw [World.cell?_setCell_other _ _ _ _ (by simp)]; exact h.c4
  c5 := by rw [World.cell?_setCell_other _ _ _ _ (by simp)]; exact h.c5
  c6 := by rw [World.cell?_setCell_other _ _ _ _ (by simp)]; exact h.c6
  c7 := by rw [World.cell?_setCell_other _ _ _ _ (by simp)]; exact h.c7
  fz := fun k => by rw [World.frozen?_setCell]; exact h.fz k
  hi := by rw [World.size_setCell]; exact h.hi
theorem ObB.put710 {w : World} {b : Nat} {o : Ob} {v u : Value} (h : ObB w b o v u) (n : Int) : ObB (w.setCell ⟨b, 7, none⟩ (.int .i64 n)) b ⟨o.k, o.l, o.r, o.asked, o.got, n⟩ v u where
  c0 := by rw [World.cell?_setCell_other _ _ _ _ (by simp)]; exact h.c0
  c1 := by rw [World.cell?_setCell_other _ _ _ _ (by simp)]; exact h.c1
  c2 := by rw [World.cell?_setCell_other _ _ _ _ (by simp)]; exact h.c2
  c3 := by rw [World.cell?_setCell_other _ _ _ _ (by simp)]; exact h.c3
  c4 := by rw [World.cell?_setCell_other _ _ _ _ (by simp)]; exact h.c4
  c5 := by rw [World.cell?_setCell_other _ _ _ _ (by simp)]; exact h.c5
  c6 := by rw [World.cell?_setCell_other _ _ _ _ (by simp)]; exact h.c6
  c7 := World.cell?_setCell_same _ _ _ h.c7
  fz := fun k => by rw [World.frozen?_setCell]; exact h.fz k
  hi := by rw [World.size_setCell]; exact h.hi
theorem LocO.put0 {y : World} {n g B : Nat} {o : Ob} {p u : Value} (h : LocO y n g B o p u) (hn : g ≠ n) (t : ByteArray) : LocO (y.setCell ⟨g, 0, none⟩ (.string t)) n g B ⟨t, o.l, o.r, o.asked, o.got, o.ep⟩ p u := by
  obtain ⟨c, hc⟩ := h.tb
  exact ⟨h.lb.put010 t, h.nb.far hn _, ⟨_, heap_setCell_same y g 0 _ _ (.string t) hc⟩, h.op.besides10 hc (by decide) _, h.ou.besides10 hc (by decide) _⟩
theorem LocO.put5 {y : World} {n g B : Nat} {o : Ob} {p u : Value} (h : LocO y n g B o p u) (hn : g ≠ n) (x : Int) : LocO (y.setCell ⟨g, 5, none⟩ (.int .i64 x)) n g B ⟨o.k, o.l, o.r, x, o.got, o.ep⟩ p u := by
  obtain ⟨c, hc⟩ := h.tb
  exact ⟨h.lb.put510 x, h.nb.far hn _, ⟨_, heap_setCell_same y g 5 _ _ (.int .i64 x) hc⟩, h.op.besides10 hc (by decide) _, h.ou.besides10 hc (by decide) _⟩
theorem LocO.put6 {y : World} {n g B : Nat} {o : Ob} {p u : Value} (h : LocO y n g B o p u) (hn : g ≠ n) (x : Int) : LocO (y.setCell ⟨g, 6, none⟩ (.int .i64 x)) n g B ⟨o.k, o.l, o.r, o.asked, x, o.ep⟩ p u := by
  obtain ⟨c, hc⟩ := h.tb
  exact ⟨h.lb.put610 x, h.nb.far hn _, ⟨_, heap_setCell_same y g 6 _ _ (.int .i64 x) hc⟩, h.op.besides10 hc (by decide) _, h.ou.besides10 hc (by decide) _⟩
theorem LocO.put7 {y : World} {n g B : Nat} {o : Ob} {p u : Value} (h : LocO y n g B o p u) (hn : g ≠ n) (x : Int) : LocO (y.setCell ⟨g, 7, none⟩ (.int .i64 x)) n g B ⟨o.k, o.l, o.r, o.asked, o.got, x⟩ p u := by
  obtain ⟨c, hc⟩ := h.tb
  exact ⟨h.lb.put710 x, h.nb.far hn _, ⟨_, heap_setCell_same y g 7 _ _ (.int .i64 x) hc⟩, h.op.besides10 hc (by decide) _, h.ou.besides10 hc (by decide) _⟩
theorem LocO.putR {y : World} {n g B : Nat} {o : Ob} {p u : Value} (h : LocO y n g B o p u) (hn : g ≠ n) (r : Rs) (x : Value) (hx : OwnsF y B x r.l) : LocO (((y.setCell ⟨g, 2, none⟩ (.int .i64 r.s)).setCell ⟨g, 3, none⟩ x).setCell ⟨g, 4, none⟩ (.string r.b)) n g B ⟨o.k, o.l, r, o.asked, o.got, o.ep⟩ p x := by
  obtain ⟨c, hc⟩ := h.tb
  have h1 := heap_setCell_same y g 2 _ _ (.int .i64 r.s) hc
  have h2 := heap_setCell_same _ g 3 _ _ x h1
  exact ⟨((h.lb.put210 r.s).put310 r.l x).put410 r.b, ((h.nb.far hn _).far hn _).far hn _, ⟨_, heap_setCell_same _ g 4 _ _ (.string r.b) h2⟩, ((h.op.besides10 hc (by decide) _).besides10 h1 (by decide) _).besides10 h2 (by decide) _, ((hx.besides10 hc (by decide) _).besides10 h1 (by decide) _).besides10 h2 (by decide) _⟩
theorem LocO.form {y : World} {n g B : Nat} {o : Ob} {p u : Value} (h : LocO y n g B o p u) : ∃ a c a2 c2, p = .slice a o.l.length c ∧ u = .slice a2 o.r.l.length c2 := by
  obtain ⟨a, c, h1, _, _⟩ := h.op.form
  obtain ⟨a2, c2, h2, _, _⟩ := h.ou.form
  exact ⟨a, c, a2, c2, h1, h2⟩
/-- .. copied to the result. -/
theorem LocO.fin {y : World} {n g B : Nat} {o : Ob} {p u : Value} (h : LocO y n g B o p u) (hB : n < B) : ObB (putL y n (obL o p u) 0) n o p u ∧ Below n y (putL y n (obL o p u) 0) ∧ OwnsF (putL y n (obL o p u) 0) n p o.l ∧ OwnsF (putL y n (obL o p u) 0) n u o.r.l :=
  ⟨h.nb.puts _ _ _, putL_below (Nat.le_refl _) _ 0 (Below.refl _ _), (h.op.putL10 hB _ 0).low (Nat.le_of_lt hB), (h.ou.putL10 hB _ 0).low (Nat.le_of_lt hB)⟩
def frY (b n g B : Nat) (got : Int) (z5 : Value) (t : Nat → Value) : Act := { tmps := #[.pointer (some ⟨b, 0, none⟩), undef, .pointer (some ⟨n, 0, none⟩), .pointer (some ⟨g, 0, none⟩), .pointer (some ⟨b, 0, none⟩), z5, .pointer (some ⟨b, 0, none⟩), .bool true, .pointer (some ⟨b, 0, none⟩), .int .i64 0, .bool true, .bool true, t 12, t 13, t 14, t 15, t 16, t 17, t 18, t 19, undef, undef, undef, undef, undef, undef, undef, undef, undef, undef, undef, undef, undef, undef, undef, undef, undef, undef, undef, undef, undef, undef, undef, undef, undef, undef, undef, undef, undef, undef, undef], defers := [] }
def dY (i : Nat) : Nat := if i = 0 then 12 else if i = 1 then 13 else if i = 2 then 14 else if i = 3 then 15 else if i = 4 then 16 else if i = 5 then 17 else if i = 6 then 18 else if i = 7 then 19 else i + 5000
def GY (b n g B : Nat) (got : Int) (z5 : Value) (i : Nat) (x : World) (v : Value) : Prop := match i with
  | 0 => v = (.pointer (some ⟨g, 6, none⟩))
  | 1 => v = (.int .i64 got)
  | 2 => v = (.int .i64 (got + 1))
  | 3 => gTabI b [-1, got + 1, -9223372036854775808] x v
  | 4 => v = .pointer (some ⟨b, 0, none⟩)
  | 5 => gNum 3 v
  | 6 => gPtI b [-1, got + 1, -9223372036854775808] x v
  | 7 => ∃ z : Int, v = .int .i64 z
  | _ => True
theorem GY.keep (b n g B : Nat) (got : Int) (z5 : Value) {x y : World} (hb : Beside b x y) (hB : b < B) (j : Nat) (v : Value) (hj : j < 8) (h : GY b n g B got z5 j x v) : GY b n g B got z5 j y v := by
  rcases (show j = 0 ∨ j = 1 ∨ j = 2 ∨ j = 3 ∨ j = 4 ∨ j = 5 ∨ j = 6 ∨ j = 7 by omega) with rfl | rfl | rfl | rfl | rfl | rfl | rfl | rfl
  · exact h
  · exact h
  · exact h
  · exact gTabI.keep h hb
  · exact h
  · exact h
  · exact gPtI.keep h hb
  · exact h
theorem dY_ne {i j : Nat} (hi : i < 8) (hj : j < 8) (h : j ≠ i) : dY j ≠ dY i := by
  rcases (show i = 0 ∨ i = 1 ∨ i = 2 ∨ i = 3 ∨ i = 4 ∨ i = 5 ∨ i = 6 ∨ i = 7 by omega) with rfl | rfl | rfl | rfl | rfl | rfl | rfl | rfl <;> rcases (show j = 0 ∨ j = 1 ∨ j = 2 ∨ j = 3 ∨ j = 4 ∨ j = 5 ∨ j = 6 ∨ j = 7 by omega) with rfl | rfl | rfl | rfl | rfl | rfl | rfl | rfl <;> first | (exact absurd rfl h) | decide
set_option maxRecDepth 100000 in
set_option maxHeartbeats 16000000 in
theorem l10DrawAnyO (b : Nat) (sa : Option Addr) (sl sc : Nat) (w : World) (hc : Cur w b sa sl sc) :
    Calls Tryz.prog 40 #[.pointer (some ⟨b, 0, none⟩)] w fun e w' => (∃ v, e = .returned v ∧ gOb w.heap.size w' v) ∧ Cur w' b sa sl sc ∧ Beside b w w' := by
  have hbz : b < w.heap.size := hc.2.2.1
  obtain ⟨B, hB⟩ : ∃ B, B = w.heap.size + 1 := ⟨_, rfl⟩
  have hBb : b < B := by omega
  have HB : Hid (B = w.heap.size + 1) := hB
  go_enter Tryz.func40, Tryz.ntmps40
  go_wp2_with fail
  refine (l10DrawO b sa sl sc (w.alloc (.cells #[.string ⟨#[]⟩, .slice none 0 0, .int .i64 0, .slice none 0 0, .string ⟨#[]⟩, .int .i64 0, .int .i64 0, .int .i64 0] 28)) (hc.more9 _)).mono ?_
  rintro e w1 ⟨⟨v, rfl, o, p, u, rfl, h1, h2, hfew⟩, hc1, hb1⟩
  obtain ⟨pa, pc, rfl, _, _⟩ := h1.form
  obtain ⟨ua, uc, rfl, _, _⟩ := h2.form
  have N1 : ObB w1 w.heap.size noO (.slice none 0 0) (.slice none 0 0) := (ObB.new w noO (.slice none 0 0) (.slice none 0 0) 28).beside hb1 (by omega)
  have hnw : w.heap.size < w1.heap.size := N1.hi
  have L2 : Hid (LocO (w1.alloc (.cells #[.string o.k, .slice pa o.l.length pc, .int .i64 o.r.s, .slice ua o.r.l.length uc, .string o.r.b, .int .i64 o.asked, .int .i64 o.got, .int .i64 o.ep] 28)) w.heap.size w1.heap.size B o (.slice pa o.l.length pc) (.slice ua o.r.l.length uc)) := ⟨ObB.new w1 o _ _ _, N1.alloc _, ⟨_, newAt w1 _⟩, (h1.low (by simp; omega)).alloc _, (h2.low (by simp; omega)).alloc _⟩
  have C2 : Hid (Cur (w1.alloc (.cells #[.string o.k, .slice pa o.l.length pc, .int .i64 o.r.s, .slice ua o.r.l.length uc, .string o.r.b, .int .i64 o.asked, .int .i64 o.got, .int .i64 o.ep] 28)) b sa sl sc) := hc1.more9 _
  have S2 : Hid (Beside b w (w1.alloc (.cells #[.string o.k, .slice pa o.l.length pc, .int .i64 o.r.s, .slice ua o.r.l.length uc, .string o.r.b, .int .i64 o.asked, .int .i64 o.got, .int .i64 o.ep] 28))) := ((((Beside.refl b w).more9 _).trans hb1).more9 _)
  have hg1 : w1.heap.size ≠ b := by omega
  have hg2 : w1.heap.size ≠ w.heap.size := by omega
  have hn1 : w.heap.size ≠ b := by omega
  have HFW : Hid (FewO o) := hfew
  clear h1 h2 hc1 hb1 hc N1 hfew hB
  unfold obV
  go_wp2_with fail
  refine (l1Once b sa sl sc 14 (by decide) (by decide) _ C2.out).mono ?_
  rintro e w3 ⟨tt, rfl, hc3, hb3⟩
  have L3 : Hid (LocO w3 w.heap.size w1.heap.size B o (.slice pa o.l.length pc) (.slice ua o.r.l.length uc)) := L2.out.beside hb3 hn1 hg1 hBb
  have C3 : Hid (Cur w3 b sa sl sc) := hc3
  have S3 : Hid (Beside b w w3) := S2.out.trans hb3
  clear hb3 hc3 L2 C2 S2
  cases tt with
  | false =>
    obtain ⟨o0, o1, o2, o3, o4, o5, o6, o7, of, oh⟩ := L3.out.lb
    obtain ⟨z0, z1, z2, z3, z4, z5', z6, z7, zf, zh⟩ := L3.out.nb
    simp only [noO, noS] at z0 z1 z2 z3 z4 z5' z6 z7
    (try simp only at o0 o1 o2 o3 o4 o5 o6 o7)
    have HF : Hid _ := L3.out.fin (show w.heap.size < B by have := HB.out; omega)
    go_wp2
    obtain ⟨hp, bp, vp, up⟩ := HF.out
    obtain ⟨p0, p1, p2, p3, p4, p5, p6, p7, pf, ph⟩ := hp
    simp only [obL, putL, Nat.zero_add, Nat.reduceAdd] at p0 p1 p2 p3 p4 p5 p6 p7 bp vp up
    refine bodyPost_ret (v := obV o (.slice pa o.l.length pc) (.slice ua o.r.l.length uc)) (by unfold obV; simp [results, Tryz.results40, go_sem, p0, p1, p2, p3, p4, p5, p6, p7]) rfl ⟨⟨_, rfl, o, _, _, rfl, vp, up, HFW.out⟩, C3.out.kept bp hbz, S3.out.grow10 bp (Nat.le_refl _)⟩

  | true =>
    go_wp2_with fail
    refine (l1Below b sa sl sc 5 (by decide) (by decide) _ C3.out).mono ?_
    rintro e w4 ⟨y, rfl, hy0, hy1, hc4, hb4⟩
    have L4 : Hid (LocO w4 w.heap.size w1.heap.size B o (.slice pa o.l.length pc) (.slice ua o.r.l.length uc)) := L3.out.beside hb4 hn1 hg1 hBb
    have C4 : Hid (Cur w4 b sa sl sc) := hc4
    have S4 : Hid (Beside b w w4) := S3.out.trans hb4
    clear hb4 hc4 L3 C3 S3
    rcases (show y = 0 ∨ y = 1 ∨ y = 2 ∨ y = 3 ∨ y = 4 by omega) with rfl | rfl | rfl | rfl | rfl
    · obtain ⟨z5, hz5⟩ : ∃ z5 : Value, z5 = .agg #[.string o.k, .slice pa o.l.length pc, .int .i64 o.r.s, .slice ua o.r.l.length uc, .string o.r.b, .int .i64 o.asked, .int .i64 o.got, .int .i64 o.ep] := ⟨_, rfl⟩
      have ew : IntKind.i64.wrap (o.got + 1) = o.got + 1 := by have := HFW.out.2.2.2.2; rw [IntKind.wrap_i64]; omega
      have hBx : ∀ x, SCur b sa sl sc w4 x → B ≤ x.heap.size := fun x h => by have := h.size; have := L4.out.lb.hi; have := HB.out; omega
      have hCG : ∀ x, SCur b sa sl sc w4 x → x.cell? ⟨w1.heap.size, 6, none⟩ = some (.int .i64 o.got) := fun x h => (L4.out.beside h.2 hn1 hg1 hBb).lb.c6
      have hS0 : SCur b sa sl sc w4 w4.drew := ⟨C4.out, ⟨rfl, rfl, rfl, Nat.le_refl _, fun _ _ _ => rfl⟩⟩
      go_upto_region 5 with fail
      rw [← hz5]
      clear hz5
      refine region_heads 8 mixed (by decide) (by kernel_rfl) (by kernel_rfl) (by kernel_rfl) (by kernel_rfl) (frY b w.heap.size w1.heap.size B o.got z5) dY (SCur b sa sl sc w4) (GY b w.heap.size w1.heap.size B o.got z5) (fun i j hi hj h => dY_ne hi hj h) ?put (fun _ => undef) rfl ?hS ?step ?done
      case put =>
        intro i o hi ho t v
        rcases (show i = 0 ∨ i = 1 ∨ i = 2 ∨ i = 3 ∨ i = 4 ∨ i = 5 ∨ i = 6 ∨ i = 7 by omega) with rfl | rfl | rfl | rfl | rfl | rfl | rfl | rfl
        all_goals
          obtain rfl := Option.some.inj ho
          rfl
      case step =>
        intro i o hi ho t x hS hdep K hK
        rcases (show i = 0 ∨ i = 1 ∨ i = 2 ∨ i = 3 ∨ i = 4 ∨ i = 5 ∨ i = 6 ∨ i = 7 by omega) with rfl | rfl | rfl | rfl | rfl | rfl | rfl | rfl
        all_goals obtain rfl := Option.some.inj ho
        · have HK : Hid (K ((frY b w.heap.size w1.heap.size B o.got z5 t).put (some 12) (.pointer (some ⟨w1.heap.size, 6, none⟩))) x) := hK _ _ hS (fun j u hj hne h => h) rfl
          have h2 := HK.out
          unfold frY at h2 ⊢
          go_simp
          simpa [Act.put, Act.put] using h2
        · have e0 : t 12 = (.pointer (some ⟨w1.heap.size, 6, none⟩)) := hdep { on := 0, ground := Ground.data } (by simp) rfl
          have c6 : x.cell? ⟨w1.heap.size, 6, none⟩ = some (.int .i64 o.got) := hCG x hS
          have HK : Hid (K ((frY b w.heap.size w1.heap.size B o.got z5 t).put (some 13) (.int .i64 o.got)) x) := hK _ _ hS (fun j u hj hne h => h) rfl
          have h2 := HK.out
          unfold frY at h2 ⊢
          go_simp
          simpa [Act.put, e0, c6] using h2
        · have e1 : t 13 = (.int .i64 o.got) := hdep { on := 1, ground := Ground.data } (by simp) rfl
          have HK : Hid (K ((frY b w.heap.size w1.heap.size B o.got z5 t).put (some 14) (.int .i64 (o.got + 1))) x) := hK _ _ hS (fun j u hj hne h => h) rfl
          have h2 := HK.out
          unfold frY at h2 ⊢
          go_simp
          simpa [Act.put, e1, ew] using h2
        · have e2 : t 14 = .int .i64 (o.got + 1) := hdep { on := 2, ground := Ground.data } (by simp) rfl
          have HK : Hid (K ((frY b w.heap.size w1.heap.size B o.got z5 t).put (some 15) (.slice (some ⟨x.heap.size, 0, none⟩) 3 3)) (x.alloc (.cells #[.int .i64 (-1), .int .i64 (o.got + 1), .int .i64 (-9223372036854775808)] 2))) := hK _ _ (hS.more _) (fun j u hj hne h => GY.keep b w.heap.size w1.heap.size B o.got z5 (besAlloc b x _) hBb j u hj h) ⟨x.heap.size, rfl, newAt x _, (by have := hS.lt; omega)⟩
          have h2 := HK.out
          unfold frY at h2 ⊢
          go_simp
          simpa [Act.put, e2] using h2
        · have HK : Hid (K ((frY b w.heap.size w1.heap.size B o.got z5 t).put (some 16) (.pointer (some ⟨b, 0, none⟩))) x) := hK _ _ hS (fun j u hj hne h => h) rfl
          unfold frY
          go_simp
          exact HK.out
        · have e : t 16 = .pointer (some ⟨b, 0, none⟩) := hdep { on := 4, ground := Ground.data } (by simp) rfl
          exact step_below rfl 3 (by decide) (by decide) (.tmp 16) _ rfl e hS (fun v y k1 k2 k3 => hK v y k1 (fun j u hj hne h => GY.keep b w.heap.size w1.heap.size B o.got z5 k2 hBb j u hj h) k3)
        · have ga : gTabI b [-1, o.got + 1, -9223372036854775808] x (t 15) := hdep { on := 3, ground := Ground.data } (by simp) rfl
          obtain ⟨gg, ea, hT, hgb⟩ := ga
          have gc : gNum 3 (t 17) := hdep { on := 5, ground := Ground.data } (by simp) rfl
          obtain ⟨k, ec, hk⟩ := gc
          have hkI : (k : Int) < 3 := by omega
          have HK : Hid (K ((frY b w.heap.size w1.heap.size B o.got z5 t).put (some 18) (.pointer (some ⟨gg, k, none⟩))) x) := hK _ _ hS (fun j u hj hne h => h) ⟨gg, k, rfl, hk, hT, hgb⟩
          have h2 := HK.out
          unfold frY at h2 ⊢
          go_simp
          simpa [Act.put, ea, ec, hkI] using h2
        · have ga : gPtI b [-1, o.got + 1, -9223372036854775808] x (t 18) := hdep { on := 6, ground := Ground.data } (by simp) rfl
          obtain ⟨gg, k, ea, hk, hT, hgb⟩ := ga
          obtain ⟨z, c0⟩ : ∃ z : Int, x.cell? ⟨gg, k, none⟩ = some (.int .i64 z) := ⟨_, tabI_at hT hk⟩
          have HK : Hid (K ((frY b w.heap.size w1.heap.size B o.got z5 t).put (some 19) (.int .i64 z)) x) := hK _ _ hS (fun j u hj hne h => h) ⟨z, rfl⟩
          have h2 := HK.out
          unfold frY at h2 ⊢
          go_simp
          simpa [Act.put, ea, c0] using h2
      case hS => exact hS0
      case done =>
        intro t x hS hG
        obtain ⟨z, e19⟩ : ∃ z : Int, t 19 = .int .i64 z := hG 7 (by decide)
        have L5 := L4.out.beside hS.2 hn1 hg1 hBb
        have L6 : Hid (LocO (x.setCell ⟨w1.heap.size, 5, none⟩ (.int .i64 z)) w.heap.size w1.heap.size B ⟨o.k, o.l, o.r, z, o.got, o.ep⟩ (.slice pa o.l.length pc) (.slice ua o.r.l.length uc)) := L5.put5 hg2 z
        have hbs : Below B x (x.setCell ⟨w1.heap.size, 5, none⟩ (.int .i64 z)) := (Below.refl B x).setCell (p := ⟨w1.heap.size, 5, none⟩) (by show B ≤ w1.heap.size; have := HB.out; omega) _
        have C6 : Hid (Cur (x.setCell ⟨w1.heap.size, 5, none⟩ (.int .i64 z)) b sa sl sc) := hS.1.kept hbs hBb
        have S6 : Hid (Beside b w (x.setCell ⟨w1.heap.size, 5, none⟩ (.int .i64 z))) := (S4.out.trans hS.2).grow10 hbs (by have := HB.out; omega)
        obtain ⟨o0, o1, o2, o3, o4, o5, o6, o7, of, oh⟩ := L5.lb
        clear hG hS hS0 hCG hBx L4 C4 S4 L5 hbs
        show wpList Tryz.prog _ _ [_, _] _ x
        unfold frY
        rw [e19]
        clear e19
        go_upto_region 14 with fail
        generalize x.setCell ⟨w1.heap.size, 5, none⟩ (.int .i64 z) = w9 at L6 C6 S6 ⊢
        clear o0 o1 o2 o3 o4 o5 o6 o7 of oh
        obtain ⟨o0, o1, o2, o3, o4, o5, o6, o7, of, oh⟩ := L6.out.lb
        obtain ⟨z0, z1, z2, z3, z4, z5', z6, z7, zf, zh⟩ := L6.out.nb
        simp only [noO, noS] at z0 z1 z2 z3 z4 z5' z6 z7
        (try simp only at o0 o1 o2 o3 o4 o5 o6 o7)
        have HF : Hid _ := L6.out.fin (show w.heap.size < B by have := HB.out; omega)
        go_wp2
        obtain ⟨hp, bp, vp, up⟩ := HF.out
        obtain ⟨p0, p1, p2, p3, p4, p5, p6, p7, pf, ph⟩ := hp
        simp only [obL, putL, Nat.zero_add, Nat.reduceAdd] at p0 p1 p2 p3 p4 p5 p6 p7 bp vp up
        refine bodyPost_ret (v := obV ⟨o.k, o.l, o.r, z, o.got, o.ep⟩ (.slice pa o.l.length pc) (.slice ua o.r.l.length uc)) (by unfold obV; simp [results, Tryz.results40, go_sem, p0, p1, p2, p3, p4, p5, p6, p7]) rfl ⟨⟨_, rfl, ⟨o.k, o.l, o.r, z, o.got, o.ep⟩, _, _, rfl, vp, up, HFW.out⟩, C6.out.kept bp hbz, S6.out.grow10 bp (Nat.le_refl _)⟩
    · go_wp2_with fail
      refine (l1Below b sa sl sc 3 (by decide) (by decide) (w4.alloc (.cells #[.int .i64 253402300799, .int .i64 253402300800, .int .i64 0] 2)) (C4.out.more9 _)).mono ?_
      rintro e w5 ⟨k, rfl, hk0, hk1, hc5, hb5⟩
      obtain ⟨k, rfl⟩ := Int.eq_ofNat_of_zero_le hk0
      have hT : w5.heap[w4.heap.size]? = some (.cells (List.map (Value.int .i64) [253402300799, 253402300800, 0]).toArray 2 (0, 0)) := besAt hb5 (newAt w4 _) (by have := C4.out.2.2.1; omega)
      have hk : k < ([253402300799, 253402300800, 0] : List Int).length := by show k < 3; omega
      obtain ⟨z, hz0, hz1, c0⟩ : ∃ z : Int, 0 ≤ z ∧ z ≤ 253402300800 ∧ w5.cell? ⟨w4.heap.size, k, none⟩ = some (.int .i64 z) := ⟨_, ((by decide : ∀ s ∈ ([253402300799, 253402300800, 0] : List Int), (0) ≤ s ∧ s ≤ 253402300800) _ (List.getElem_mem hk)).1, ((by decide : ∀ s ∈ ([253402300799, 253402300800, 0] : List Int), (0) ≤ s ∧ s ≤ 253402300800) _ (List.getElem_mem hk)).2, tabI_at hT hk⟩
      have hkI : (k : Int) < 3 := by omega
      have L5 := (L4.out.beside ((Beside.refl b w4).more9 _) hn1 hg1 hBb).beside hb5 hn1 hg1 hBb
      have L6 : Hid (LocO (w5.setCell ⟨w1.heap.size, 6, none⟩ (.int .i64 z)) w.heap.size w1.heap.size B ⟨o.k, o.l, o.r, o.asked, z, o.ep⟩ (.slice pa o.l.length pc) (.slice ua o.r.l.length uc)) := L5.put6 hg2 z
      have hbs : Below B w5 (w5.setCell ⟨w1.heap.size, 6, none⟩ (.int .i64 z)) := (Below.refl B w5).setCell (p := ⟨w1.heap.size, 6, none⟩) (by show B ≤ w1.heap.size; have := HB.out; omega) _
      have C6 : Hid (Cur (w5.setCell ⟨w1.heap.size, 6, none⟩ (.int .i64 z)) b sa sl sc) := hc5.kept hbs hBb
      have S6 : Hid (Beside b w (w5.setCell ⟨w1.heap.size, 6, none⟩ (.int .i64 z))) := ((S4.out.more9 _).trans hb5).grow10 hbs (by have := HB.out; omega)
      obtain ⟨o0, o1, o2, o3, o4, o5, o6, o7, of, oh⟩ := L5.lb
      clear L4 C4 S4 L5 hbs hc5 hb5 hT hk
      go_upto_region 14 with fail
      generalize w5.setCell ⟨w1.heap.size, 6, none⟩ (.int .i64 z) = w9 at L6 C6 S6 ⊢
      clear o0 o1 o2 o3 o4 o5 o6 o7 of oh
      obtain ⟨o0, o1, o2, o3, o4, o5, o6, o7, of, oh⟩ := L6.out.lb
      obtain ⟨z0, z1, z2, z3, z4, z5', z6, z7, zf, zh⟩ := L6.out.nb
      simp only [noO, noS] at z0 z1 z2 z3 z4 z5' z6 z7
      (try simp only at o0 o1 o2 o3 o4 o5 o6 o7)
      have HF : Hid _ := L6.out.fin (show w.heap.size < B by have := HB.out; omega)
      go_wp2
      obtain ⟨hp, bp, vp, up⟩ := HF.out
      obtain ⟨p0, p1, p2, p3, p4, p5, p6, p7, pf, ph⟩ := hp
      simp only [obL, putL, Nat.zero_add, Nat.reduceAdd] at p0 p1 p2 p3 p4 p5 p6 p7 bp vp up
      refine bodyPost_ret (v := obV ⟨o.k, o.l, o.r, o.asked, z, o.ep⟩ (.slice pa o.l.length pc) (.slice ua o.r.l.length uc)) (by unfold obV; simp [results, Tryz.results40, go_sem, p0, p1, p2, p3, p4, p5, p6, p7]) rfl ⟨⟨_, rfl, ⟨o.k, o.l, o.r, o.asked, z, o.ep⟩, _, _, rfl, vp, up, ⟨HFW.out.1, HFW.out.2.1, HFW.out.2.2.1, HFW.out.2.2.2.1, hz0, hz1⟩⟩, C6.out.kept bp hbz, S6.out.grow10 bp (Nat.le_refl _)⟩
    · go_wp2_with fail
      refine (l1Below b sa sl sc 3 (by decide) (by decide) (w4.alloc (.cells #[.int .i64 (-1), .int .i64 100000, .int .i64 100001] 2)) (C4.out.more9 _)).mono ?_
      rintro e w5 ⟨k, rfl, hk0, hk1, hc5, hb5⟩
      obtain ⟨k, rfl⟩ := Int.eq_ofNat_of_zero_le hk0
      have hT : w5.heap[w4.heap.size]? = some (.cells (List.map (Value.int .i64) [(-1), 100000, 100001]).toArray 2 (0, 0)) := besAt hb5 (newAt w4 _) (by have := C4.out.2.2.1; omega)
      have hk : k < ([(-1), 100000, 100001] : List Int).length := by show k < 3; omega
      obtain ⟨z, hz0, hz1, c0⟩ : ∃ z : Int, -1 ≤ z ∧ z ≤ 100001 ∧ w5.cell? ⟨w4.heap.size, k, none⟩ = some (.int .i64 z) := ⟨_, ((by decide : ∀ s ∈ ([(-1), 100000, 100001] : List Int), (-1) ≤ s ∧ s ≤ 100001) _ (List.getElem_mem hk)).1, ((by decide : ∀ s ∈ ([(-1), 100000, 100001] : List Int), (-1) ≤ s ∧ s ≤ 100001) _ (List.getElem_mem hk)).2, tabI_at hT hk⟩
      have hkI : (k : Int) < 3 := by omega
      have L5 := (L4.out.beside ((Beside.refl b w4).more9 _) hn1 hg1 hBb).beside hb5 hn1 hg1 hBb
      have L6 : Hid (LocO (w5.setCell ⟨w1.heap.size, 7, none⟩ (.int .i64 z)) w.heap.size w1.heap.size B ⟨o.k, o.l, o.r, o.asked, o.got, z⟩ (.slice pa o.l.length pc) (.slice ua o.r.l.length uc)) := L5.put7 hg2 z
      have hbs : Below B w5 (w5.setCell ⟨w1.heap.size, 7, none⟩ (.int .i64 z)) := (Below.refl B w5).setCell (p := ⟨w1.heap.size, 7, none⟩) (by show B ≤ w1.heap.size; have := HB.out; omega) _
      have C6 : Hid (Cur (w5.setCell ⟨w1.heap.size, 7, none⟩ (.int .i64 z)) b sa sl sc) := hc5.kept hbs hBb
      have S6 : Hid (Beside b w (w5.setCell ⟨w1.heap.size, 7, none⟩ (.int .i64 z))) := ((S4.out.more9 _).trans hb5).grow10 hbs (by have := HB.out; omega)
      obtain ⟨o0, o1, o2, o3, o4, o5, o6, o7, of, oh⟩ := L5.lb
      clear L4 C4 S4 L5 hbs hc5 hb5 hT hk
      go_upto_region 14 with fail
      generalize w5.setCell ⟨w1.heap.size, 7, none⟩ (.int .i64 z) = w9 at L6 C6 S6 ⊢
      clear o0 o1 o2 o3 o4 o5 o6 o7 of oh
      obtain ⟨o0, o1, o2, o3, o4, o5, o6, o7, of, oh⟩ := L6.out.lb
      obtain ⟨z0, z1, z2, z3, z4, z5', z6, z7, zf, zh⟩ := L6.out.nb
      simp only [noO, noS] at z0 z1 z2 z3 z4 z5' z6 z7
      (try simp only at o0 o1 o2 o3 o4 o5 o6 o7)
      have HF : Hid _ := L6.out.fin (show w.heap.size < B by have := HB.out; omega)
      go_wp2
      obtain ⟨hp, bp, vp, up⟩ := HF.out
      obtain ⟨p0, p1, p2, p3, p4, p5, p6, p7, pf, ph⟩ := hp
      simp only [obL, putL, Nat.zero_add, Nat.reduceAdd] at p0 p1 p2 p3 p4 p5 p6 p7 bp vp up
      refine bodyPost_ret (v := obV ⟨o.k, o.l, o.r, o.asked, o.got, z⟩ (.slice pa o.l.length pc) (.slice ua o.r.l.length uc)) (by unfold obV; simp [results, Tryz.results40, go_sem, p0, p1, p2, p3, p4, p5, p6, p7]) rfl ⟨⟨_, rfl, ⟨o.k, o.l, o.r, o.asked, o.got, z⟩, _, _, rfl, vp, up, HFW.out⟩, C6.out.kept bp hbz, S6.out.grow10 bp (Nat.le_refl _)⟩
    · go_wp2_with fail
      refine (l6DrawS b sa sl sc w4 C4.out).mono ?_
      rintro e w5 ⟨⟨r, x, rfl, hx, hsm⟩, hc5, hb5⟩
      obtain ⟨xa, xc, rfl, _, _⟩ := hx.form
      have L5 := L4.out.beside hb5 hn1 hg1 hBb
      have hxB : OwnsF w5 B (.slice xa r.l.length xc) r.l := hx.low (by have := L4.out.lb.hi; have := HB.out; omega)
      have L6 : Hid (LocO (((w5.setCell ⟨w1.heap.size, 2, none⟩ (.int .i64 r.s)).setCell ⟨w1.heap.size, 3, none⟩ (.slice xa r.l.length xc)).setCell ⟨w1.heap.size, 4, none⟩ (.string r.b)) w.heap.size w1.heap.size B ⟨o.k, o.l, r, o.asked, o.got, o.ep⟩ (.slice pa o.l.length pc) (.slice xa r.l.length xc)) := L5.putR hg2 r _ hxB
      have hbs : Below B w5 (((w5.setCell ⟨w1.heap.size, 2, none⟩ (.int .i64 r.s)).setCell ⟨w1.heap.size, 3, none⟩ (.slice xa r.l.length xc)).setCell ⟨w1.heap.size, 4, none⟩ (.string r.b)) := (((Below.refl B w5).setCell (p := ⟨w1.heap.size, 2, none⟩) (by show B ≤ w1.heap.size; have := HB.out; omega) _).setCell (p := ⟨w1.heap.size, 3, none⟩) (by show B ≤ w1.heap.size; have := HB.out; omega) _).setCell (p := ⟨w1.heap.size, 4, none⟩) (by show B ≤ w1.heap.size; have := HB.out; omega) _
      have C6 : Hid (Cur (((w5.setCell ⟨w1.heap.size, 2, none⟩ (.int .i64 r.s)).setCell ⟨w1.heap.size, 3, none⟩ (.slice xa r.l.length xc)).setCell ⟨w1.heap.size, 4, none⟩ (.string r.b)) b sa sl sc) := hc5.kept hbs hBb
      have S6 : Hid (Beside b w (((w5.setCell ⟨w1.heap.size, 2, none⟩ (.int .i64 r.s)).setCell ⟨w1.heap.size, 3, none⟩ (.slice xa r.l.length xc)).setCell ⟨w1.heap.size, 4, none⟩ (.string r.b))) := (S4.out.trans hb5).grow10 hbs (by have := HB.out; omega)
      obtain ⟨o0, o1, o2, o3, o4, o5, o6, o7, of, oh⟩ := L5.lb
      have hb41 := hsm.2
      clear L4 C4 S4 L5 hbs hc5 hb5 hx hxB
      unfold rsV
      go_upto_region 14 with fail
      generalize ((w5.setCell ⟨w1.heap.size, 2, none⟩ (.int .i64 r.s)).setCell ⟨w1.heap.size, 3, none⟩ (.slice xa r.l.length xc)).setCell ⟨w1.heap.size, 4, none⟩ (.string r.b) = w9 at L6 C6 S6 ⊢
      clear o0 o1 o2 o3 o4 o5 o6 o7 of oh
      obtain ⟨o0, o1, o2, o3, o4, o5, o6, o7, of, oh⟩ := L6.out.lb
      obtain ⟨z0, z1, z2, z3, z4, z5', z6, z7, zf, zh⟩ := L6.out.nb
      simp only [noO, noS] at z0 z1 z2 z3 z4 z5' z6 z7
      (try simp only at o0 o1 o2 o3 o4 o5 o6 o7)
      have HF : Hid _ := L6.out.fin (show w.heap.size < B by have := HB.out; omega)
      go_wp2
      obtain ⟨hp, bp, vp, up⟩ := HF.out
      obtain ⟨p0, p1, p2, p3, p4, p5, p6, p7, pf, ph⟩ := hp
      simp only [obL, putL, Nat.zero_add, Nat.reduceAdd] at p0 p1 p2 p3 p4 p5 p6 p7 bp vp up
      refine bodyPost_ret (v := obV ⟨o.k, o.l, r, o.asked, o.got, o.ep⟩ (.slice pa o.l.length pc) (.slice xa r.l.length xc)) (by unfold obV; simp [results, Tryz.results40, go_sem, p0, p1, p2, p3, p4, p5, p6, p7]) rfl ⟨⟨_, rfl, ⟨o.k, o.l, r, o.asked, o.got, o.ep⟩, _, _, rfl, vp, up, ⟨HFW.out.1, HFW.out.2.1, hsm.1.few, hb41, HFW.out.2.2.2.2⟩⟩, C6.out.kept bp hbz, S6.out.grow10 bp (Nat.le_refl _)⟩
    · go_wp2_with fail
      refine (l1Below b sa sl sc 2 (by decide) (by decide) _ C4.out).mono ?_
      rintro e w5 ⟨k, rfl, hk0, hk1, hc5, hb5⟩
      obtain ⟨k, rfl⟩ := Int.eq_ofNat_of_zero_le hk0
      obtain ⟨w6, hm, hb6, tx, htz, htx⟩ := make_text10 w5 (500 + k) (by omega)
      have e1 : ((500 + k : Nat) : Int) = 500 + (k : Int) := by omega
      rw [e1] at hm
      have htz2 : tx.size ≤ 600 := by omega
      have L5 := (L4.out.beside hb5 hn1 hg1 hBb).beside ((Beside.refl b w5).below hb6) hn1 hg1 hBb
      have L6 : Hid (LocO (w6.setCell ⟨w1.heap.size, 0, none⟩ (.string tx)) w.heap.size w1.heap.size B ⟨tx, o.l, o.r, o.asked, o.got, o.ep⟩ (.slice pa o.l.length pc) (.slice ua o.r.l.length uc)) := L5.put0 hg2 tx
      have hbs : Below B w6 (w6.setCell ⟨w1.heap.size, 0, none⟩ (.string tx)) := (Below.refl B w6).setCell (p := ⟨w1.heap.size, 0, none⟩) (by show B ≤ w1.heap.size; have := HB.out; omega) _
      have C6 : Hid (Cur (w6.setCell ⟨w1.heap.size, 0, none⟩ (.string tx)) b sa sl sc) := (hc5.kept hb6 hc5.2.2.1).kept hbs hBb
      have S6 : Hid (Beside b w (w6.setCell ⟨w1.heap.size, 0, none⟩ (.string tx))) := ((S4.out.trans hb5).below hb6).grow10 hbs (by have := HB.out; omega)
      obtain ⟨o0, o1, o2, o3, o4, o5, o6, o7, of, oh⟩ := L5.lb
      clear L4 C4 S4 L5 hbs hc5 hb5 hb6 e1 htz
      go_upto_region 14 with fail
      generalize w6.setCell ⟨w1.heap.size, 0, none⟩ (.string tx) = w9 at L6 C6 S6 ⊢
      clear o0 o1 o2 o3 o4 o5 o6 o7 of oh
      obtain ⟨o0, o1, o2, o3, o4, o5, o6, o7, of, oh⟩ := L6.out.lb
      obtain ⟨z0, z1, z2, z3, z4, z5', z6, z7, zf, zh⟩ := L6.out.nb
      simp only [noO, noS] at z0 z1 z2 z3 z4 z5' z6 z7
      (try simp only at o0 o1 o2 o3 o4 o5 o6 o7)
      have HF : Hid _ := L6.out.fin (show w.heap.size < B by have := HB.out; omega)
      go_wp2
      obtain ⟨hp, bp, vp, up⟩ := HF.out
      obtain ⟨p0, p1, p2, p3, p4, p5, p6, p7, pf, ph⟩ := hp
      simp only [obL, putL, Nat.zero_add, Nat.reduceAdd] at p0 p1 p2 p3 p4 p5 p6 p7 bp vp up
      refine bodyPost_ret (v := obV ⟨tx, o.l, o.r, o.asked, o.got, o.ep⟩ (.slice pa o.l.length pc) (.slice ua o.r.l.length uc)) (by unfold obV; simp [results, Tryz.results40, go_sem, p0, p1, p2, p3, p4, p5, p6, p7]) rfl ⟨⟨_, rfl, ⟨tx, o.l, o.r, o.asked, o.got, o.ep⟩, _, _, rfl, vp, up, ⟨htz2, HFW.out.2⟩⟩, C6.out.kept bp hbz, S6.out.grow10 bp (Nat.le_refl _)⟩
end Go.Proofs.YtemmgfnepdgpbaaGreatDoor
namespace Go.Proofs.YtemmgfnepdgpbaaGreatDoor
open Go.RowKit Go.Sort St
set_option linter.unusedVariables false
set_option linter.unusedSimpArgs false

theorem obInS {W : World} {B : Nat} {p u : Value} {o : Ob} (h1 : OwnsF W B p o.l) (h2 : OwnsF W B u o.r.l) (hf : FewO o) : ObIn W p u o := by
  have s1 := hf.2.1.more.sz
  have s2 := hf.2.2.1.sz
  have n1 := hf.2.1.1
  have n2 := hf.2.2.1.1
  have b1 := hf.2.2.2.1
  have k1 := hf.1
  exact ⟨h1.fits10 (by omega) (by omega), ⟨h2.fits10 (by omega) (by omega), by omega⟩, by omega⟩
theorem show_few (n : Nat) : ∀ (l : List Fl), (∀ f ∈ l, f.1.size + f.2.size ≤ n) → (showL l).length ≤ (n + 4) * l.length
  | [], _ => Nat.zero_le _
  | f :: l, h => by
    have h1 := h f (List.mem_cons_self ..)
    have h2 := show_few n l (fun g hg => h g (List.mem_cons_of_mem _ hg))
    show (showF f ++ showL l).length ≤ _
    rw [List.length_append, showF_length, List.length_cons, Nat.mul_succ]
    omega
theorem sho_few {o : Ob} (h : obB o = true) (hf : FewO o) : (shoL o).length ≤ 9970 := by
  have hk := obOk h
  have a1 := show_few 97 o.l (fun f hf2 => by have := hf.2.1.2 f hf2; omega)
  have a2 := show_few 168 o.r.l (fun f hf2 => by have := hf.2.2.1.2 f hf2; omega)
  have b1 := hf.2.1.1
  have b2 := (fldsOk_parts hk.rl).1
  have c1 : (97 + 4) * o.l.length ≤ 202 := by omega
  have c2 : (168 + 4) * o.r.l.length ≤ 5160 := by omega
  have hkl : o.k.data.toList.length = o.k.size := by simp
  have hbl : o.r.b.data.toList.length = o.r.b.size := by simp
  have := hk.ksz
  have := hk.bd
  have d1 := dec_small15 (show o.asked ≤ 253402300799 from hk.asked.2)
  have d2 := dec_small15 (show o.got ≤ 253402300799 from hk.got.2)
  have d3 := dec_small15 (show o.ep ≤ 253402300799 by have := hk.ep.2; omega)
  have d4 := dec_small15 (show (o.l.length : Int) ≤ 253402300799 by omega)
  have d5 := dec_small15 (show o.r.s ≤ 253402300799 by have := hk.st.2; omega)
  have d6 := dec_small15 (show (o.r.l.length : Int) ≤ 253402300799 by omega)
  have d7 := dec_small15 (show (o.r.b.size : Int) ≤ 253402300799 by omega)
  unfold shoL hdL
  simp only [List.length_append, List.length_cons, List.length_nil]
  omega
theorem shw_few {o : Ob} (hf : FewO o) : (shwO o).size ≤ 9970 := by
  unfold shwO
  split
  · rename_i h
    rw [txt_sizG]
    exact sho_few h hf
  · exact Nat.zero_le _
set_option maxRecDepth 100000 in
set_option maxHeartbeats 4000000 in
theorem drawRdO (sa : Option Addr) (sl sc : Nat) (w : World) (hc : Code8 w w.heap.size sa sl) (hl : sl ≤ 4096) :
    Calls Tryz.prog 14 #[.slice sa sl sc] w fun e w' => (∃ t : ByteArray, e = .returned (.string t) ∧ t.size ≤ 10000) ∧ Below w.heap.size w w' := by
  have hA := fun b W hW => l10DrawAnyO b sa sl sc W hW
  have hS := fun o v u W hW => specShO o v u W hW
  go_enter Tryz.func14, Tryz.ntmps14
  go_wp2_with fail
  refine (l1New sa sl sc _ hc hl).mono ?_
  rintro e w1 ⟨rfl, hc1, hb1⟩
  have hz1 : w.heap.size < w1.heap.size := hc1.2.2.1
  clear hc
  go_wp2_with fail
  refine (hA _ _ hc1).mono ?_
  rintro e w2 ⟨⟨_, rfl, o, p, u, rfl, ho, hu, hfew⟩, hc2, hb2⟩
  have B2 : Below w.heap.size w w2 := hb1.trans (hb2.low (Nat.le_refl _) hb1.size)
  have hIN := obInS ho hu hfew
  have hsz := shw_few hfew
  obtain ⟨pa, pc, rfl, _, _⟩ := ho.form
  obtain ⟨ua, uc, rfl, _, _⟩ := hu.form
  have hSo := hS o _ _ w2 hIN
  clear hc1 hb1 hb2 hA hS hIN hfew ho hu
  generalize shwO o = c at hsz hSo
  unfold obV at *
  go_wp2_with fail
  refine hSo.mono ?_
  rintro e w3 ⟨rfl, hb3⟩
  have hc3 := hc2.kept hb3 hc2.2.2.1
  have B3 : Below w.heap.size w w3 := B2.trans (hb3.mono B2.size)
  clear hb3 hc2 B2 hSo
  go_wp2_with fail
  refine (l1DrawText _ sa sl sc ⟨#[97, 10]⟩ 2 (by decide) (by decide) (by decide) _ hc3).mono ?_
  rintro e w4 ⟨d, rfl, hd, hc4, hb4⟩
  have B4 : Below w.heap.size w w4 := B3.trans (hb4.low (Nat.le_refl _) B3.size)
  clear hb4 hc3 B3
  have hcd : (c ++ d).size = c.size + d.size := ByteArray.size_append
  go_wp2_with fail
  generalize c ++ d = cd at hcd ⊢
  refine (l1Once _ sa sl sc _ (by decide) (by decide) _ hc4).mono ?_
  rintro e w5 ⟨x, rfl, hc5, hb5⟩
  have B5 : Below w.heap.size w w5 := B4.trans (hb5.low (Nat.le_refl _) B4.size)
  clear hb5 hc4 B4
  cases x with
  | false =>
    go_wp2
    go_ret
    exact ⟨⟨cd, rfl, by omega⟩, B5⟩
  | true =>
    go_wp2_with fail
    refine (l1Bend _ sa sl sc cd _ (by omega) (by decide) (by decide) _ hc5).mono ?_
    rintro e w6 ⟨t2, rfl, htz, hc6, hb6⟩
    have B6 : Below w.heap.size w w6 := B5.trans (hb6.low (Nat.le_refl _) B5.size)
    clear hb6 hc6 hc5 B5
    go_wp2
    go_ret
    exact ⟨⟨t2, rfl, by omega⟩, B6⟩
end Go.Proofs.YtemmgfnepdgpbaaGreatDoor
namespace Go.Proofs.YtemmgfnepdgpbaaGreatDoor
open Go.RowKit Go.Sort
set_option linter.unusedVariables false

theorem ret_ofpS {a b : Int} (h : a = b) : Ending.returned (.int .i64 a) = Ending.returned (.int .i64 b) := by rw [h]
theorem code8_onpS {w w' : World} {sa : Option Addr} {sl : Nat} (h : Code8 w w.heap.size sa sl) (hb : Below w.heap.size w w') : Code8 w' w'.heap.size sa sl := by
  intro j hj
  obtain ⟨g, o, z, h1, h2, h3⟩ := (h.kept hb (Nat.le_refl _)) j hj
  have := hb.size
  exact ⟨g, o, z, h1, by omega, h3⟩
set_option maxHeartbeats 400000 in
theorem pick5S (sa : Option Addr) (sl sc : Nat) (n : Nat) (hn1 : 1 ≤ n) (hn2 : n ≤ 10000) (w : World) (hc : Code8 w w.heap.size sa sl) (hl : sl ≤ 4096) :
    Calls Tryz.prog 12 #[.slice sa sl sc, .int .i64 1, .int .i64 (n : Int)] w fun e w' => (∃ r : Nat, e = .returned (.int .i64 r) ∧ r < n) ∧ w = w' := by
  have hnz : ((n : Int) == 0) = false := by simp; omega
  go_enter Tryz.func12, Tryz.ntmps12
  go_wp2
  go_loop [7, 8] (fun x i => ∃ (k : Nat) (p : Int), k ≤ sl ∧ i = .int .i64 k ∧ x = .int .i64 p ∧ 0 ≤ p ∧ p ≤ 1000002) (fun _ i => sl - (intOf i).toNat)
  case atStart => exact ⟨0, _, Nat.zero_le _, rfl, rfl, by omega, by omega⟩
  case round =>
    obtain ⟨k, p, hk, rfl, rfl, b0, b1⟩ := hrel
    by_cases hlt : k < sl
    · obtain ⟨g, o, z, rfl, hg, hcell, hz0, hz1⟩ := hc k hlt
      clear hc
      go_wp2
      go_round
      case rel => exact ⟨k + 1, _, by omega, by go_num, rfl, by omega, by omega⟩
      case measure => simp [intOf]; omega
    · obtain rfl : k = sl := by omega
      have e0 : p.tmod (n : Int) = p % (n : Int) := Int.tmod_eq_emod_of_nonneg b0
      have e1 : 0 ≤ p % (n : Int) := Int.emod_nonneg p (by omega)
      have e2 : p % (n : Int) < (n : Int) := Int.emod_lt_of_pos p (by omega)
      obtain ⟨r, hr⟩ := Int.eq_ofNat_of_zero_le e1
      have hrn : r < n := by omega
      have hr2 : p.tmod (n : Int) = (r : Int) := e0.trans hr
      have hw : IntKind.i64.wrap (r : Int) = (r : Int) := by rw [IntKind.wrap_i64]; omega
      go_wp2
      go_ret
      exact ⟨⟨r, by first | rfl | exact ret_ofpS hr | exact ret_ofpS hr2 | (simp [hr2, hw, hr]), hrn⟩, rfl⟩
end Go.Proofs.YtemmgfnepdgpbaaGreatDoor

/-
  Drawn responses: whatever the code, a small response.
-/
import Derived.Test.YtnachhmhjodbhaaGreatDoorG44
namespace Go.Proofs.YtnachhmhjodbhaaGreatDoor
open Go.RowKit Go.Sort
set_option linter.unusedVariables false

theorem box3 {w : World} {g : Nat} {c0 c1 c2 : Value} {T : TypeId} (h : w.heap[g]? = some (.cells #[c0, c1, c2] T (0, 0))) : w.cell? ⟨g, 0, none⟩ = some c0 ∧ w.cell? ⟨g, 1, none⟩ = some c1 ∧ w.cell? ⟨g, 2, none⟩ = some c2 ∧ ∀ k, w.frozen? ⟨g, k, none⟩ = false :=
  ⟨by rw [cell_of_row w g 0 _ _ _ h]; rfl, by rw [cell_of_row w g 1 _ _ _ h]; rfl, by rw [cell_of_row w g 2 _ _ _ h]; rfl, fun k => frozen_of_row h k⟩
def teF : Fl := (⟨#[116, 114, 97, 110, 115, 102, 101, 114, 45, 101, 110, 99, 111, 100, 105, 110, 103]⟩, ⟨#[99, 104, 117, 110, 107, 101, 100]⟩)
def BoxS (b n : Nat) (w : World) (g : Nat) (r : Rs) (u : Value) : Prop := w.heap[g]? = some (.cells #[.int .i64 r.s, u, .string r.b] 30 (0, 0)) ∧ g ≠ b ∧ n + 1 ≤ g
theorem BoxS.keep {b n : Nat} {w w' : World} {g : Nat} {r : Rs} {u : Value} (h : BoxS b n w g r u) (k : Keep b w w') : BoxS b n w' g r u := ⟨k g _ h.2.1 h.1, h.2⟩
def SmallS (r : Rs) : Prop := SmallG r.l ∧ r.b.size ≤ 4100
def SmallS0 (r : Rs) : Prop := SmallF r.l ∧ r.b.size ≤ 4100
def hasS (n : Nat) (w : World) (v : Value) : Prop := ∃ r u, v = rsV r u ∧ OwnsF w n u r.l ∧ SmallS0 r
def hasBoxS (b n : Nat) (w : World) (v : Value) : Prop := ∃ g, v = .pointer (some ⟨g, 0, none⟩) ∧ BoxS b n w g noS (.slice none 0 0)
def tabS0 : Array Value := #[.int .i64 200, .int .i64 204, .int .i64 304, .int .i64 404, .int .i64 599]
def tabS1 : Array Value := #[.int .i64 199, .int .i64 600, .int .i64 0, .int .i64 (-9223372036854775808)]
theorem tabS0_at (x : Nat) (h : x < 5) : ∃ s : Int, tabS0[x]? = some (.int .i64 s) := by
  rcases (show x = 0 ∨ x = 1 ∨ x = 2 ∨ x = 3 ∨ x = 4 by omega) with rfl | rfl | rfl | rfl | rfl <;> exact ⟨_, rfl⟩
theorem tabS1_at (x : Nat) (h : x < 4) : ∃ s : Int, tabS1[x]? = some (.int .i64 s) := by
  rcases (show x = 0 ∨ x = 1 ∨ x = 2 ∨ x = 3 by omega) with rfl | rfl | rfl | rfl <;> exact ⟨_, rfl⟩
def GS (b n : Nat) (w : World) (i : Nat) (v : Value) : Prop := match i with
  | 0 => hasTabT b w v 5 tabS0 2
  | 1 => v = .pointer (some ⟨b, 0, none⟩)
  | 2 => hasNum v 5
  | 3 => hasPtT b w v 5 tabS0 2
  | 4 => hasIt v
  | 5 => v = .pointer (some ⟨b, 0, none⟩)
  | 6 => hasFl0 (n + 1) w v
  | 7 => v = .pointer (some ⟨b, 0, none⟩)
  | 8 => hasTxt v 8
  | 9 => hasS (n + 1) w v
  | 10 => hasBoxS b n w v
  | _ => True
def dS (i : Nat) : Nat := if i = 10 then 3 else i + 4
theorem dS_inj {i j : Nat} (hi : i < 11) (hj : j < 11) (h : j ≠ i) : dS j ≠ dS i := by unfold dS; split <;> split <;> omega
theorem GS.keep {b n : Nat} {w w' : World} (hk : Keep b w w') (hb : b < n + 1) (j : Nat) (u : Value) (hj : j < 11) (h : GS b n w j u) : GS b n w' j u := by
  rcases (show j = 0 ∨ j = 1 ∨ j = 2 ∨ j = 3 ∨ j = 4 ∨ j = 5 ∨ j = 6 ∨ j = 7 ∨ j = 8 ∨ j = 9 ∨ j = 10 by omega) with rfl | rfl | rfl | rfl | rfl | rfl | rfl | rfl | rfl | rfl | rfl
  · exact hasTabT.keep h hk
  · exact h
  · exact h
  · exact hasPtT.keep h hk
  · exact h
  · exact h
  · obtain ⟨l, h1, h2⟩ := h; exact ⟨l, h1.keep hk hb, h2⟩
  · exact h
  · exact h
  · obtain ⟨r, u, h0, h1, h2⟩ := h; exact ⟨r, u, h0, h1.keep hk hb, h2⟩
  · obtain ⟨g, h0, h1⟩ := h; exact ⟨g, h0, h1.keep hk⟩
def frS (b n : Nat) (t : Nat → Value) : Act := { tmps := #[.pointer (some ⟨b, 0, none⟩), undef, .pointer (some ⟨n, 0, none⟩), t 3, t 4, t 5, t 6, t 7, t 8, t 9, t 10, t 11, t 12, t 13, undef, undef, undef, undef, undef, undef, undef, undef, undef, undef, undef, undef, undef, undef, undef, undef, undef, undef, undef, undef, undef, undef, undef, undef, undef, undef, undef, undef, undef, undef], defers := [] }
def FinS (b n : Nat) (t : Nat → Value) (w : World) : Prop := ∃ g r u, t 3 = .pointer (some ⟨g, 0, none⟩) ∧ BoxS b n w g r u ∧ OwnsF w (n + 1) u r.l ∧ SmallS0 r
def InvS (b n : Nat) (sa : Option Addr) (sl sc : Nat) (w0 : World) (L : Nat → Bool) (a : Act) (w : World) : Prop :=
  ∃ t, a = frS b n t ∧ Cur w b sa sl sc ∧ Beside b w0 w ∧ n + 1 ≤ w.heap.size ∧ CondG (GS b n) dS 11 (FinS b n) L t w

set_option maxRecDepth 100000 in
set_option maxHeartbeats 8000000 in
theorem l6DrawS (b : Nat) (sa : Option Addr) (sl sc : Nat) (w : World) (hc : Cur w b sa sl sc) :
    Calls Tryz.prog 58 #[.pointer (some ⟨b, 0, none⟩)] w fun e w' => (∃ r u, e = .returned (rsV r u) ∧ OwnsF w' w.heap.size u r.l ∧ SmallS r) ∧ Cur w' b sa sl sc ∧ Beside b w w' := by
  have hbz : b < w.heap.size := hc.2.2.1
  have hbn : b < w.heap.size + 1 := by omega
  have hent : ∀ args w, (callFunc 26 args).run Tryz.prog w = .ok (.enter 26 args) w := Go.Proofs.enters_of Tryz.func26 (by kernel_rfl) rfl
  have hent4 : ∀ args w, (callFunc 29 args).run Tryz.prog w = .ok (.enter 29 args) w := Go.Proofs.enters_of Tryz.func29 (by kernel_rfl) rfl
  have hent1 : ∀ args w, (callFunc 78 args).run Tryz.prog w = .ok (.enter 78 args) w := Go.Proofs.enters_of Tryz.func78 (by kernel_rfl) rfl
  have hb0 := (Below.refl w.heap.size w).alloc (Nat.le_refl _) (.cells #[.int .i64 0, .slice none 0 0, .string ⟨#[]⟩] 30)
  go_enter Tryz.func58, Tryz.ntmps58
  go_wp2
  refine region_inv mixed (InvS b w.heap.size sa sl sc (w.alloc (.cells #[.int .i64 0, .slice none 0 0, .string ⟨#[]⟩] 30))) ?h0 ?step ?back ?done
  case h0 =>
    refine ⟨fun _ => undef, rfl, ?_, ?_, ?_, CondG.none⟩
    · exact hc.kept (show Below w.heap.size w (w.alloc (.cells #[.int .i64 0, .slice none 0 0, .string ⟨#[]⟩] 30)).drew from ⟨hb0.os, hb0.tape, hb0.output, hb0.size, hb0.block⟩) hbz
    · exact ⟨rfl, rfl, rfl, Nat.le_refl _, fun _ _ _ => rfl⟩
    · show w.heap.size + 1 ≤ (w.alloc (.cells #[.int .i64 0, .slice none 0 0, .string ⟨#[]⟩] 30)).heap.size
      simp
  case step =>
    intro L a x i o K ho hi hdep hI hK
    obtain ⟨t, rfl, hcur, hbes, hsz, C⟩ := hI
    have hxz : b < x.heap.size := hcur.2.2.1
    have hlt : i < 12 := (Array.getElem?_eq_some_iff.1 ho).1
    rcases (show i = 0 ∨ i = 1 ∨ i = 2 ∨ i = 3 ∨ i = 4 ∨ i = 5 ∨ i = 6 ∨ i = 7 ∨ i = 8 ∨ i = 9 ∨ i = 10 ∨ i = 11 by omega) with rfl | rfl | rfl | rfl | rfl | rfl | rfl | rfl | rfl | rfl | rfl | rfl
    all_goals obtain rfl := Option.some.inj ho
    · have hba := (Below.refl x.heap.size x).alloc (Nat.le_refl _) (.cells tabS0 2)
      have HK : Hid (K (frS b w.heap.size (upd t 4 (.slice (some ⟨x.heap.size, 0, none⟩) 5 5))) (x.alloc (.cells tabS0 2))) := hK _ _ ⟨_, rfl, hcur.kept hba hxz, hbes.below hba, by simp; omega, C.put hi (by omega) (fun j hj hne => dS_inj (by omega) hj hne) (fun j u hj h => GS.keep (Keep.alloc b x _) hbn j u hj h) ⟨x.heap.size, rfl, heap_alloc_new x _, by omega⟩⟩
      unfold frS
      go_simp
      exact HK.out
    · have HK : Hid (K (frS b w.heap.size (upd t 5 (.pointer (some ⟨b, 0, none⟩)))) x) := hK _ _ ⟨_, rfl, hcur, hbes, hsz, C.put hi (by omega) (fun j hj hne => dS_inj (by omega) hj hne) (fun j u hj h => GS.keep (Keep.refl b x) hbn j u hj h) rfl⟩
      unfold frS
      go_simp
      exact HK.out
    · have l1 := hdep { on := 1, ground := Ground.data } (by simp) rfl
      have e5 : t 5 = .pointer (some ⟨b, 0, none⟩) := C.got hi (by omega) 1 (by omega) l1
      refine step_call2 rfl 26 (.tmp 5) (.const (.int .i64 5)) _ rfl (.pointer (some ⟨b, 0, none⟩)) (.int .i64 5) e5 rfl (hent _) (fun u y => ∃ z : Int, u = .int .i64 z ∧ 0 ≤ z ∧ z < 5 ∧ Cur y b sa sl sc ∧ Beside b x y) ((l1Below b sa sl sc 5 (by decide) (by decide) x hcur).mono fun e y ⟨z, h0, h1, h2, h3, h4⟩ => ⟨_, h0, z, rfl, h1, h2, h3, h4⟩) ?_
      rintro u y ⟨z, rfl, hz0, hz1, hc1, hb1⟩
      exact hK _ _ ⟨upd t 6 (.int .i64 z), rfl, hc1, hbes.trans hb1, Nat.le_trans hsz hb1.2.2.2.1, C.put hi (by omega) (fun j hj hne => dS_inj (by omega) hj hne) (fun j u hj h => GS.keep hb1.keep hbn j u hj h) ⟨z.toNat, by rw [Int.toNat_of_nonneg hz0], by omega⟩⟩
    · have l0 := hdep { on := 0, ground := Ground.data } (by simp) rfl
      have l2 := hdep { on := 2, ground := Ground.data } (by simp) rfl
      obtain ⟨g, e4, hT⟩ : hasTabT b x (t 4) 5 tabS0 2 := C.got hi (by omega) 0 (by omega) l0
      obtain ⟨z, e6, hz⟩ : hasNum (t 6) 5 := C.got hi (by omega) 2 (by omega) l2
      have hzI : (z : Int) < 5 := by omega
      have HK : Hid (K (frS b w.heap.size (upd t 7 (.pointer (some ⟨g, z, none⟩)))) x) := hK _ _ ⟨_, rfl, hcur, hbes, hsz, C.put hi (by omega) (fun j hj hne => dS_inj (by omega) hj hne) (fun j u hj h => GS.keep (Keep.refl b x) hbn j u hj h) ⟨g, z, rfl, hz, hT⟩⟩
      unfold frS
      go_simp
      have h2 := HK.out
      unfold frS upd at h2
      simpa [e4, e6] using h2
    · have l3 := hdep { on := 3, ground := Ground.data } (by simp) rfl
      obtain ⟨g, z, e7, hz, hT⟩ : hasPtT b x (t 7) 5 tabS0 2 := C.got hi (by omega) 3 (by omega) l3
      obtain ⟨s, hs⟩ := tabS0_at z hz
      have c0 : x.cell? ⟨g, z, none⟩ = some (.int .i64 s) := by rw [cell_of_row x g z _ _ _ hT.1]; exact hs
      have HK : Hid (K (frS b w.heap.size (upd t 8 (.int .i64 s))) x) := hK _ _ ⟨_, rfl, hcur, hbes, hsz, C.put hi (by omega) (fun j hj hne => dS_inj (by omega) hj hne) (fun j u hj h => GS.keep (Keep.refl b x) hbn j u hj h) ⟨s, rfl⟩⟩
      unfold frS
      go_simp
      have h2 := HK.out
      unfold frS upd at h2
      simpa [e7] using h2
    · have HK : Hid (K (frS b w.heap.size (upd t 9 (.pointer (some ⟨b, 0, none⟩)))) x) := hK _ _ ⟨_, rfl, hcur, hbes, hsz, C.put hi (by omega) (fun j hj hne => dS_inj (by omega) hj hne) (fun j u hj h => GS.keep (Keep.refl b x) hbn j u hj h) rfl⟩
      unfold frS
      go_simp
      exact HK.out
    · have l1 := hdep { on := 5, ground := Ground.data } (by simp) rfl
      have e5 : t 9 = .pointer (some ⟨b, 0, none⟩) := C.got hi (by omega) 5 (by omega) l1
      refine step_call1 rfl 29 (.tmp 9) _ rfl (.pointer (some ⟨b, 0, none⟩)) e5 (hent4 _) (fun u y => ∃ l, OwnsF y x.heap.size u l ∧ SmallF l ∧ Cur y b sa sl sc ∧ Beside b x y) ((l4Draw b sa sl sc x hcur).mono fun e y ⟨⟨u, l, h0, h1, h2⟩, h3, h4⟩ => ⟨u, h0, l, h1, h2, h3, h4⟩) ?_
      rintro u y ⟨l, ho1, hs1, hc1, hb1⟩
      exact hK _ _ ⟨upd t 10 u, rfl, hc1, hbes.trans hb1, Nat.le_trans hsz hb1.2.2.2.1, C.put hi (by omega) (fun j hj hne => dS_inj (by omega) hj hne) (fun j u hj h => GS.keep hb1.keep hbn j u hj h) ⟨l, ho1.low hsz, hs1⟩⟩
    · have HK : Hid (K (frS b w.heap.size (upd t 11 (.pointer (some ⟨b, 0, none⟩)))) x) := hK _ _ ⟨_, rfl, hcur, hbes, hsz, C.put hi (by omega) (fun j hj hne => dS_inj (by omega) hj hne) (fun j u hj h => GS.keep (Keep.refl b x) hbn j u hj h) rfl⟩
      unfold frS
      go_simp
      exact HK.out
    · have l1 := hdep { on := 7, ground := Ground.data } (by simp) rfl
      have e5 : t 11 = .pointer (some ⟨b, 0, none⟩) := C.got hi (by omega) 7 (by omega) l1
      refine step_call rfl 78 #[.tmp 11, .const (.string ⟨#[97, 98, 13, 10]⟩), .const (.int .i64 8)] _ rfl #[.pointer (some ⟨b, 0, none⟩), .string ⟨#[97, 98, 13, 10]⟩, .int .i64 8] (by simp only [List.map_toArray, List.map_cons, List.map_nil]; rw [show (frS b w.heap.size t).eval (.tmp 11) = t 11 from rfl, e5]; rfl) (hent1 _) (fun u y => ∃ s : ByteArray, u = .string s ∧ s.size ≤ 8 ∧ Cur y b sa sl sc ∧ Beside b x y) ((l1DrawText b sa sl sc ⟨#[97, 98, 13, 10]⟩ 8 (by decide) (by decide) (by omega) x hcur).mono fun e y ⟨s, h0, h1, h2, h3⟩ => ⟨_, h0, s, rfl, h1, h2, h3⟩) ?_
      rintro u y ⟨s, rfl, hs1, hc1, hb1⟩
      exact hK _ _ ⟨upd t 12 (.string s), rfl, hc1, hbes.trans hb1, Nat.le_trans hsz hb1.2.2.2.1, C.put hi (by omega) (fun j hj hne => dS_inj (by omega) hj hne) (fun j u hj h => GS.keep hb1.keep hbn j u hj h) ⟨s, rfl, hs1⟩⟩
    · have l4 := hdep { on := 4, ground := Ground.data } (by simp) rfl
      have l6 := hdep { on := 6, ground := Ground.data } (by simp) rfl
      have l8 := hdep { on := 8, ground := Ground.data } (by simp) rfl
      obtain ⟨p, e8⟩ : hasIt (t 8) := C.got hi (by omega) 4 (by omega) l4
      obtain ⟨l, ho, hl⟩ : hasFl0 (w.heap.size + 1) x (t 10) := C.got hi (by omega) 6 (by omega) l6
      obtain ⟨s, e12, hs⟩ : hasTxt (t 12) 8 := C.got hi (by omega) 8 (by omega) l8
      obtain ⟨A5, cap5, e10, _⟩ := ho.form
      rw [e10] at ho
      have HK : Hid (K (frS b w.heap.size (upd t 13 (.agg #[.int .i64 p, .slice A5 l.length cap5, .string s]))) x) := hK _ _ ⟨_, rfl, hcur, hbes, hsz, C.put hi (by omega) (fun j hj hne => dS_inj (by omega) hj hne) (fun j u hj h => GS.keep (Keep.refl b x) hbn j u hj h) ⟨⟨p, l, s⟩, .slice A5 l.length cap5, rfl, ho, hl, by show s.size ≤ 4100; omega⟩⟩
      unfold frS
      go_simp
      have h2 := HK.out
      unfold frS upd at h2
      simpa [e8, e10, e12] using h2
    · have hba := (Below.refl x.heap.size x).alloc (Nat.le_refl _) (.cells #[.int .i64 0, .slice none 0 0, .string ⟨#[]⟩] 30)
      have HK : Hid (K (frS b w.heap.size (upd t 3 (.pointer (some ⟨x.heap.size, 0, none⟩)))) (x.alloc (.cells #[.int .i64 0, .slice none 0 0, .string ⟨#[]⟩] 30))) := hK _ _ ⟨_, rfl, hcur.kept hba hxz, hbes.below hba, by simp; omega, C.put hi (by omega) (fun j hj hne => dS_inj (by omega) hj hne) (fun j u hj h => GS.keep (Keep.alloc b x _) hbn j u hj h) ⟨x.heap.size, rfl, heap_alloc_new x _, by omega, hsz⟩⟩
      unfold frS
      go_simp
      exact HK.out
    · have ph : ∀ j, j < 11 → L j = true := fun j hj => by
        rcases (show j = 0 ∨ j = 1 ∨ j = 2 ∨ j = 3 ∨ j = 4 ∨ j = 5 ∨ j = 6 ∨ j = 7 ∨ j = 8 ∨ j = 9 ∨ j = 10 by omega) with rfl | rfl | rfl | rfl | rfl | rfl | rfl | rfl | rfl | rfl | rfl <;> exact hdep { on := _, ground := Ground.phase } (by simp) rfl
      obtain ⟨r, u, e13, ho, hsm⟩ : hasS (w.heap.size + 1) x (t 13) := C.got hi (Nat.le_refl _) 9 (by omega) (ph 9 (by omega))
      obtain ⟨g, e3, hT⟩ : hasBoxS b w.heap.size x (t 3) := C.got hi (Nat.le_refl _) 10 (by omega) (ph 10 (by omega))
      obtain ⟨A5, cap5, rfl, _⟩ := ho.form
      obtain ⟨c0, c1, c2, ff⟩ := box3 hT.1
      have hbs := (((Below.refl (w.heap.size + 1) x).setCell (p := ⟨g, 0, none⟩) hT.2.2 (.int .i64 r.s)).setCell (p := ⟨g, 1, none⟩) hT.2.2 (.slice A5 r.l.length cap5)).setCell (p := ⟨g, 2, none⟩) hT.2.2 (.string r.b)
      have h1 := heap_setCell_same x g 0 _ _ (.int .i64 r.s) hT.1
      have o1 := ho.besides (k := 0) hT.1 (by decide) (.int .i64 r.s)
      have h2 := heap_setCell_same _ g 1 _ _ (.slice A5 r.l.length cap5) h1
      have o2 := o1.besides (k := 1) h1 (by decide) (.slice A5 r.l.length cap5)
      have h3 := heap_setCell_same _ g 2 _ _ (.string r.b) h2
      have o3 := o2.besides (k := 2) h2 (by decide) (.string r.b)
      have HK : Hid (K (frS b w.heap.size t) (((x.setCell ⟨g, 0, none⟩ (.int .i64 r.s)).setCell ⟨g, 1, none⟩ (.slice A5 r.l.length cap5)).setCell ⟨g, 2, none⟩ (.string r.b))) := hK _ _ ⟨_, rfl, hcur.kept hbs (by omega), hbes.grow hbs (by simp), Nat.le_trans hsz hbs.size, CondG.last ph ⟨g, r, _, e3, ⟨h3, hT.2⟩, o3, hsm⟩⟩
      unfold rsV at e13
      clear h1 h2 h3 o1 o2 o3 hbs
      unfold frS
      go_simp
      have h2 := HK.out
      unfold frS at h2
      simpa [e3, e13] using h2
  case back =>
    intro i o ho
    have hlt : i < 12 := (Array.getElem?_eq_some_iff.1 ho).1
    rcases (show i = 0 ∨ i = 1 ∨ i = 2 ∨ i = 3 ∨ i = 4 ∨ i = 5 ∨ i = 6 ∨ i = 7 ∨ i = 8 ∨ i = 9 ∨ i = 10 ∨ i = 11 by omega) with rfl | rfl | rfl | rfl | rfl | rfl | rfl | rfl | rfl | rfl | rfl | rfl
    all_goals
      obtain rfl := Option.some.inj ho
      intro e he _
      refine back_of ?_ e he
      kernel_rfl
  case done =>
    intro L a x hall hI
    obtain ⟨t, rfl, hcur, hbes, hsz, C⟩ := hI
    obtain ⟨g, r, u, e3, hT, ho, hsm⟩ := (C.en (hall 11 (by decide))).2
    clear C hall
    obtain ⟨A5, cap5, rfl, _⟩ := ho.form
    obtain ⟨s3, s4⟩ := hsm
    have rX : x.heap[w.heap.size]? = some (.cells #[.int .i64 0, .slice none 0 0, .string ⟨#[]⟩] 30) := hbes.at (by omega) (heap_alloc_new w _)
    have hbW : Beside b w x := ((Beside.refl b w).below hb0).trans hbes
    have hgb : g ≠ b := hT.2.1
    have hgn : w.heap.size < g := hT.2.2
    have tX := hT.1
    have gne := own_ne ho tX (by decide)
    clear hbes hT hc
    unfold frS
    rw [e3]
    obtain ⟨q0, q1, q2, qf⟩ := box3 tX
    go_wp2_with fail
    refine (specBare r.s x).mono ?_
    rintro e y1 ⟨rfl, rfl⟩
    cases hbr : bareB r.s with
    | false =>
      have tY := tX
      have rY := rX
      have oY := ho
      have cY := hcur
      have wY := hbW
      clear tX rX ho hcur hbW hbr q0 q1 q2 qf
      go_wp2_with fail
      refine (l1Once b sa sl sc 12 (by decide) (by decide) x cY).mono ?_
      rintro e y5 ⟨t5, rfl, hc5, hb5⟩
      have r5 := hb5.at (by omega) rY
      have t5' := hb5.at hgb tY
      have o5 := oY.keep hb5.keep hbn
      have w5 := wY.trans hb5
      clear rY tY oY hb5 wY cY
      cases t5 with
      | false =>
        have T9 := t5'
        have R9 := r5
        have HO9 : Hid (OwnsF y5 (w.heap.size + 1) (.slice A5 r.l.length cap5) r.l) := o5
        have HC9 : Hid (Cur y5 b sa sl sc) := hc5
        have HB9 : Hid (Beside b w y5) := w5
        clear t5' r5 o5 hc5 w5
        obtain ⟨c0, c1, c2, cf⟩ := box3 T9
        obtain ⟨d0, d1, d2, df⟩ := box3 R9
        have hgn' : w.heap.size ≠ g := by omega
        clear T9 R9
        go_wp2
        refine bodyPost_ret (v := .agg #[.int .i64 (r.s), .slice A5 r.l.length cap5, .string r.b]) (by simp [results, Tryz.results58, go_sem, d0, d1, d2]) rfl ⟨⟨⟨r.s, r.l, r.b⟩, .slice A5 r.l.length cap5, rfl, ?_, ⟨s3.more, s4⟩⟩, ?_, ?_⟩
        · refine OwnsF.low (B := w.heap.size + 1) ?_ (by omega)
          repeat (first | (with_reducible refine OwnsF.farG ?_ ?_ _; rotate_left; omega) | (with_reducible refine OwnsF.butG ?_ gne _) | (with_reducible refine OwnsF.alloc ?_ _))
          exact HO9.out
        · repeat (first | (with_reducible refine Cur.far ?_ ?_ _; rotate_left; omega) | (with_reducible refine Cur.more ?_ _))
          exact HC9.out
        · repeat (first | (with_reducible refine Beside.far ?_ ?_ _; rotate_left; omega) | (with_reducible refine Beside.more ?_ _))
          exact HB9.out
      | true =>
        go_wp2_with fail
        refine (l1Below b sa sl sc 2 (by decide) (by decide) y5 hc5).mono ?_
        rintro e y6 ⟨z, rfl, hz0, hz1, hc6, hb6⟩
        have r6 := hb6.at (by omega) r5
        have t6 := hb6.at hgb t5'
        have o6 := o5.keep hb6.keep hbn
        have w6 := w5.trans hb6
        have hy6 : b < y6.heap.size := hc6.2.2.1
        clear r5 t5' o5 hb6 w5 hc5
        rcases (show z = 0 ∨ z = 1 by omega) with rfl | rfl
        · have hba := (Below.refl y6.heap.size y6).alloc (Nat.le_refl _) (.cells tabS1 2)
          have ta := heap_alloc_new y6 (.cells tabS1 2)
          go_wp2_with fail
          refine (l1Below b sa sl sc 4 (by decide) (by decide) (y6.alloc (.cells tabS1 2)) (hc6.kept hba hy6)).mono ?_
          rintro e y7 ⟨z, rfl, hw0, hw1, hc7, hb7⟩
          obtain ⟨k, rfl⟩ : ∃ k : Nat, z = k := ⟨z.toNat, by omega⟩
          have r7 := hb7.at (by omega) (below_block r6 hba)
          have t7 := hb7.at hgb (below_block t6 hba)
          have o7 := (o6.alloc (.cells tabS1 2)).keep hb7.keep hbn
          have ta7 := hb7.at (by omega) ta
          have w7 := (w6.below hba).trans hb7
          obtain ⟨s, hs⟩ := tabS1_at k (by omega)
          have cs : y7.cell? ⟨y6.heap.size, k, none⟩ = some (.int .i64 s) := by rw [cell_of_row y7 _ k _ _ _ ta7]; exact hs
          obtain ⟨b0, b1, b2, bf⟩ := box3 t7
          have T9 := heap_setCell_same y7 g 0 _ _ (.int .i64 s) t7
          have R9 : (y7.setCell ⟨g, 0, none⟩ (.int .i64 s)).heap[w.heap.size]? = some (.cells #[.int .i64 0, .slice none 0 0, .string ⟨#[]⟩] 30) := by rw [heap_setCell_other y7 ⟨g, 0, none⟩ w.heap.size _ (by show w.heap.size ≠ g; omega)]; exact r7
          have gne := own_ne o7 t7 (by decide)
          have HO9 : Hid (OwnsF y7 (w.heap.size + 1) (.slice A5 r.l.length cap5) r.l) := o7
          have HC9 : Hid (Cur y7 b sa sl sc) := hc7
          have HB9 : Hid (Beside b w y7) := w7
          have hgn3 : y6.heap.size ≠ g := fun e => by rw [← e] at t6; have := (Array.getElem?_eq_some_iff.1 t6).1; omega
          clear ta ta7 r6 t6 r7 t7 o6 o7 hb7 hba hs w6 w7 hc6 hc7
          obtain ⟨c0, c1, c2, cf⟩ := box3 T9
          obtain ⟨d0, d1, d2, df⟩ := box3 R9
          have hgn' : w.heap.size ≠ g := by omega
          clear T9 R9
          go_wp2
          refine bodyPost_ret (v := .agg #[.int .i64 (s), .slice A5 r.l.length cap5, .string r.b]) (by simp [results, Tryz.results58, go_sem, d0, d1, d2]) rfl ⟨⟨⟨s, r.l, r.b⟩, .slice A5 r.l.length cap5, rfl, ?_, ⟨s3.more, s4⟩⟩, ?_, ?_⟩
          · refine OwnsF.low (B := w.heap.size + 1) ?_ (by omega)
            repeat (first | (with_reducible refine OwnsF.farG ?_ ?_ _; rotate_left; omega) | (with_reducible refine OwnsF.butG ?_ gne _) | (with_reducible refine OwnsF.alloc ?_ _))
            exact HO9.out
          · repeat (first | (with_reducible refine Cur.far ?_ ?_ _; rotate_left; omega) | (with_reducible refine Cur.more ?_ _))
            exact HC9.out
          · repeat (first | (with_reducible refine Beside.far ?_ ?_ _; rotate_left; omega) | (with_reducible refine Beside.more ?_ _))
            exact HB9.out
        · have hnz : w.heap.size < y6.heap.size := (Array.getElem?_eq_some_iff.1 r6).1
          obtain ⟨b0, b1, b2, bf⟩ := box3 t6
          have HO2 : Hid (OwnsF y6 (w.heap.size + 1) (.slice A5 r.l.length cap5) r.l) := o6
          have HT2 : Hid (y6.heap[g]? = some (.cells #[.int .i64 r.s, .slice A5 r.l.length cap5, .string r.b] 30)) := t6
          have HR2 : Hid (y6.heap[w.heap.size]? = some (.cells #[.int .i64 0, .slice none 0 0, .string ⟨#[]⟩] 30)) := r6
          have hl5 : r.l.length ≤ 31 := s3.1
          clear t6 r6 o6
          go_wp2_with (at_builtin; refine wpList_pushF _ rfl (.tmp 38) (.tmp 40) rfl (w.heap.size + 1) _ r.l teF rfl HO2.out rfl (by omega) (by omega) ?_; intro v3 y7 ho3 hg3; have hown3 : ∀ k, (Value.slice A5 r.l.length cap5).ownBlock = some k → w.heap.size + 1 ≤ k := OwnsF.from HO2.out; have gne0 : ∀ k, (Value.slice A5 r.l.length cap5).ownBlock = some k → k ≠ g := own_ne HO2.out HT2.out (by decide); have t7 : y7.heap[g]? = some (.cells #[.int .i64 r.s, .slice A5 r.l.length cap5, .string r.b] 30) := (by rw [hg3.block g (Array.getElem?_eq_some_iff.1 HT2.out).1 (fun e => gne0 g e.symm rfl)]; exact HT2.out); have r7 : y7.heap[w.heap.size]? = some (.cells #[.int .i64 0, .slice none 0 0, .string ⟨#[]⟩] 30) := (by rw [hg3.block w.heap.size (Array.getElem?_eq_some_iff.1 HR2.out).1 (fun e => by have := hown3 _ e.symm; omega)]; exact HR2.out); have HC9 : Hid (Cur y7 b sa sl sc) := hc6.kept (grown_low hg3 (fun k hk => hown3 k hk) (by omega)) (by omega); have HB9 : Hid (Beside b w y7) := w6.grown hg3 (fun k hk => by have := hown3 k hk; omega); have f3' := ho3.form; obtain ⟨A6, cap6, rfl, _⟩ := f3'; obtain ⟨n6, hn6⟩ : ∃ n, (r.l ++ [teF]).length = n := ⟨_, rfl⟩; rw [hn6] at ho3 ⊢; have b0' := (box3 t7).1; have b1' := (box3 t7).2.1; have b2' := (box3 t7).2.2.1; have bf' := (box3 t7).2.2.2; have T9 := heap_setCell_same y7 g 1 _ _ (.slice A6 n6 cap6) t7; have R9 : (y7.setCell ⟨g, 1, none⟩ (.slice A6 n6 cap6)).heap[w.heap.size]? = some (.cells #[.int .i64 0, .slice none 0 0, .string ⟨#[]⟩] 30) := (by rw [heap_setCell_other y7 ⟨g, 1, none⟩ w.heap.size _ (by show w.heap.size ≠ g; omega)]; exact r7); have gne := own_ne ho3 t7 (by decide); have HO9 : Hid (OwnsF y7 (w.heap.size + 1) (.slice A6 n6 cap6) (r.l ++ [teF])) := ho3; obtain ⟨c0, c1, c2, cf⟩ := box3 T9; obtain ⟨d0, d1, d2, df⟩ := box3 R9; have hgn' : w.heap.size ≠ g := (by omega); clear T9 R9 t7 r7 ho3 hg3; have HN6 : Hid (r.l.length ≤ 39) := (by show r.l.length ≤ 39; omega); clear hn6)
          refine bodyPost_ret (v := .agg #[.int .i64 r.s, .slice A6 n6 cap6, .string r.b]) (by simp [results, Tryz.results58, go_sem, d0, d1, d2]) rfl ⟨⟨⟨r.s, r.l ++ [teF], r.b⟩, .slice A6 n6 cap6, rfl, ?_, ⟨small_more s3.more HN6.out teF (by decide), s4⟩⟩, ?_, ?_⟩
          · refine OwnsF.low (B := w.heap.size + 1) ?_ (by omega)
            repeat (first | (with_reducible refine OwnsF.farG ?_ ?_ _; rotate_left; omega) | (with_reducible refine OwnsF.butG ?_ gne _) | (with_reducible refine OwnsF.alloc ?_ _))
            exact HO9.out
          · repeat (first | (with_reducible refine Cur.far ?_ ?_ _; rotate_left; omega) | (with_reducible refine Cur.more ?_ _))
            exact HC9.out
          · repeat (first | (with_reducible refine Beside.far ?_ ?_ _; rotate_left; omega) | (with_reducible refine Beside.more ?_ _))
            exact HB9.out
    | true =>
      go_wp2_with fail
      refine (l1Once b sa sl sc 8 (by decide) (by decide) x hcur).mono ?_
      rintro e y2 ⟨tt, rfl, hc2, hb2⟩
      have rY := hb2.at (by omega) rX
      have tY := hb2.at hgb tX
      have oY := ho.keep hb2.keep hbn
      have wY := hbW.trans hb2
      have cY := hc2
      clear tX rX ho hcur hbW hbr hb2 hc2 q0 q1 q2 qf
      cases tt with
      | true =>
        go_wp2_with fail
        refine (l1Once b sa sl sc 12 (by decide) (by decide) y2 cY).mono ?_
        rintro e y5 ⟨t5, rfl, hc5, hb5⟩
        have r5 := hb5.at (by omega) rY
        have t5' := hb5.at hgb tY
        have o5 := oY.keep hb5.keep hbn
        have w5 := wY.trans hb5
        clear rY tY oY hb5 wY cY
        cases t5 with
        | false =>
          have T9 := t5'
          have R9 := r5
          have HO9 : Hid (OwnsF y5 (w.heap.size + 1) (.slice A5 r.l.length cap5) r.l) := o5
          have HC9 : Hid (Cur y5 b sa sl sc) := hc5
          have HB9 : Hid (Beside b w y5) := w5
          clear t5' r5 o5 hc5 w5
          obtain ⟨c0, c1, c2, cf⟩ := box3 T9
          obtain ⟨d0, d1, d2, df⟩ := box3 R9
          have hgn' : w.heap.size ≠ g := by omega
          clear T9 R9
          go_wp2
          refine bodyPost_ret (v := .agg #[.int .i64 (r.s), .slice A5 r.l.length cap5, .string r.b]) (by simp [results, Tryz.results58, go_sem, d0, d1, d2]) rfl ⟨⟨⟨r.s, r.l, r.b⟩, .slice A5 r.l.length cap5, rfl, ?_, ⟨s3.more, s4⟩⟩, ?_, ?_⟩
          · refine OwnsF.low (B := w.heap.size + 1) ?_ (by omega)
            repeat (first | (with_reducible refine OwnsF.farG ?_ ?_ _; rotate_left; omega) | (with_reducible refine OwnsF.butG ?_ gne _) | (with_reducible refine OwnsF.alloc ?_ _))
            exact HO9.out
          · repeat (first | (with_reducible refine Cur.far ?_ ?_ _; rotate_left; omega) | (with_reducible refine Cur.more ?_ _))
            exact HC9.out
          · repeat (first | (with_reducible refine Beside.far ?_ ?_ _; rotate_left; omega) | (with_reducible refine Beside.more ?_ _))
            exact HB9.out
        | true =>
          go_wp2_with fail
          refine (l1Below b sa sl sc 2 (by decide) (by decide) y5 hc5).mono ?_
          rintro e y6 ⟨z, rfl, hz0, hz1, hc6, hb6⟩
          have r6 := hb6.at (by omega) r5
          have t6 := hb6.at hgb t5'
          have o6 := o5.keep hb6.keep hbn
          have w6 := w5.trans hb6
          have hy6 : b < y6.heap.size := hc6.2.2.1
          clear r5 t5' o5 hb6 w5 hc5
          rcases (show z = 0 ∨ z = 1 by omega) with rfl | rfl
          · have hba := (Below.refl y6.heap.size y6).alloc (Nat.le_refl _) (.cells tabS1 2)
            have ta := heap_alloc_new y6 (.cells tabS1 2)
            go_wp2_with fail
            refine (l1Below b sa sl sc 4 (by decide) (by decide) (y6.alloc (.cells tabS1 2)) (hc6.kept hba hy6)).mono ?_
            rintro e y7 ⟨z, rfl, hw0, hw1, hc7, hb7⟩
            obtain ⟨k, rfl⟩ : ∃ k : Nat, z = k := ⟨z.toNat, by omega⟩
            have r7 := hb7.at (by omega) (below_block r6 hba)
            have t7 := hb7.at hgb (below_block t6 hba)
            have o7 := (o6.alloc (.cells tabS1 2)).keep hb7.keep hbn
            have ta7 := hb7.at (by omega) ta
            have w7 := (w6.below hba).trans hb7
            obtain ⟨s, hs⟩ := tabS1_at k (by omega)
            have cs : y7.cell? ⟨y6.heap.size, k, none⟩ = some (.int .i64 s) := by rw [cell_of_row y7 _ k _ _ _ ta7]; exact hs
            obtain ⟨b0, b1, b2, bf⟩ := box3 t7
            have T9 := heap_setCell_same y7 g 0 _ _ (.int .i64 s) t7
            have R9 : (y7.setCell ⟨g, 0, none⟩ (.int .i64 s)).heap[w.heap.size]? = some (.cells #[.int .i64 0, .slice none 0 0, .string ⟨#[]⟩] 30) := by rw [heap_setCell_other y7 ⟨g, 0, none⟩ w.heap.size _ (by show w.heap.size ≠ g; omega)]; exact r7
            have gne := own_ne o7 t7 (by decide)
            have HO9 : Hid (OwnsF y7 (w.heap.size + 1) (.slice A5 r.l.length cap5) r.l) := o7
            have HC9 : Hid (Cur y7 b sa sl sc) := hc7
            have HB9 : Hid (Beside b w y7) := w7
            have hgn3 : y6.heap.size ≠ g := fun e => by rw [← e] at t6; have := (Array.getElem?_eq_some_iff.1 t6).1; omega
            clear ta ta7 r6 t6 r7 t7 o6 o7 hb7 hba hs w6 w7 hc6 hc7
            obtain ⟨c0, c1, c2, cf⟩ := box3 T9
            obtain ⟨d0, d1, d2, df⟩ := box3 R9
            have hgn' : w.heap.size ≠ g := by omega
            clear T9 R9
            go_wp2
            refine bodyPost_ret (v := .agg #[.int .i64 (s), .slice A5 r.l.length cap5, .string r.b]) (by simp [results, Tryz.results58, go_sem, d0, d1, d2]) rfl ⟨⟨⟨s, r.l, r.b⟩, .slice A5 r.l.length cap5, rfl, ?_, ⟨s3.more, s4⟩⟩, ?_, ?_⟩
            · refine OwnsF.low (B := w.heap.size + 1) ?_ (by omega)
              repeat (first | (with_reducible refine OwnsF.farG ?_ ?_ _; rotate_left; omega) | (with_reducible refine OwnsF.butG ?_ gne _) | (with_reducible refine OwnsF.alloc ?_ _))
              exact HO9.out
            · repeat (first | (with_reducible refine Cur.far ?_ ?_ _; rotate_left; omega) | (with_reducible refine Cur.more ?_ _))
              exact HC9.out
            · repeat (first | (with_reducible refine Beside.far ?_ ?_ _; rotate_left; omega) | (with_reducible refine Beside.more ?_ _))
              exact HB9.out
          · have hnz : w.heap.size < y6.heap.size := (Array.getElem?_eq_some_iff.1 r6).1
            obtain ⟨b0, b1, b2, bf⟩ := box3 t6
            have HO2 : Hid (OwnsF y6 (w.heap.size + 1) (.slice A5 r.l.length cap5) r.l) := o6
            have HT2 : Hid (y6.heap[g]? = some (.cells #[.int .i64 r.s, .slice A5 r.l.length cap5, .string r.b] 30)) := t6
            have HR2 : Hid (y6.heap[w.heap.size]? = some (.cells #[.int .i64 0, .slice none 0 0, .string ⟨#[]⟩] 30)) := r6
            have hl5 : r.l.length ≤ 31 := s3.1
            clear t6 r6 o6
            go_wp2_with (at_builtin; refine wpList_pushF _ rfl (.tmp 38) (.tmp 40) rfl (w.heap.size + 1) _ r.l teF rfl HO2.out rfl (by omega) (by omega) ?_; intro v3 y7 ho3 hg3; have hown3 : ∀ k, (Value.slice A5 r.l.length cap5).ownBlock = some k → w.heap.size + 1 ≤ k := OwnsF.from HO2.out; have gne0 : ∀ k, (Value.slice A5 r.l.length cap5).ownBlock = some k → k ≠ g := own_ne HO2.out HT2.out (by decide); have t7 : y7.heap[g]? = some (.cells #[.int .i64 r.s, .slice A5 r.l.length cap5, .string r.b] 30) := (by rw [hg3.block g (Array.getElem?_eq_some_iff.1 HT2.out).1 (fun e => gne0 g e.symm rfl)]; exact HT2.out); have r7 : y7.heap[w.heap.size]? = some (.cells #[.int .i64 0, .slice none 0 0, .string ⟨#[]⟩] 30) := (by rw [hg3.block w.heap.size (Array.getElem?_eq_some_iff.1 HR2.out).1 (fun e => by have := hown3 _ e.symm; omega)]; exact HR2.out); have HC9 : Hid (Cur y7 b sa sl sc) := hc6.kept (grown_low hg3 (fun k hk => hown3 k hk) (by omega)) (by omega); have HB9 : Hid (Beside b w y7) := w6.grown hg3 (fun k hk => by have := hown3 k hk; omega); have f3' := ho3.form; obtain ⟨A6, cap6, rfl, _⟩ := f3'; obtain ⟨n6, hn6⟩ : ∃ n, (r.l ++ [teF]).length = n := ⟨_, rfl⟩; rw [hn6] at ho3 ⊢; have b0' := (box3 t7).1; have b1' := (box3 t7).2.1; have b2' := (box3 t7).2.2.1; have bf' := (box3 t7).2.2.2; have T9 := heap_setCell_same y7 g 1 _ _ (.slice A6 n6 cap6) t7; have R9 : (y7.setCell ⟨g, 1, none⟩ (.slice A6 n6 cap6)).heap[w.heap.size]? = some (.cells #[.int .i64 0, .slice none 0 0, .string ⟨#[]⟩] 30) := (by rw [heap_setCell_other y7 ⟨g, 1, none⟩ w.heap.size _ (by show w.heap.size ≠ g; omega)]; exact r7); have gne := own_ne ho3 t7 (by decide); have HO9 : Hid (OwnsF y7 (w.heap.size + 1) (.slice A6 n6 cap6) (r.l ++ [teF])) := ho3; obtain ⟨c0, c1, c2, cf⟩ := box3 T9; obtain ⟨d0, d1, d2, df⟩ := box3 R9; have hgn' : w.heap.size ≠ g := (by omega); clear T9 R9 t7 r7 ho3 hg3; have HN6 : Hid (r.l.length ≤ 39) := (by show r.l.length ≤ 39; omega); clear hn6)
            refine bodyPost_ret (v := .agg #[.int .i64 r.s, .slice A6 n6 cap6, .string r.b]) (by simp [results, Tryz.results58, go_sem, d0, d1, d2]) rfl ⟨⟨⟨r.s, r.l ++ [teF], r.b⟩, .slice A6 n6 cap6, rfl, ?_, ⟨small_more s3.more HN6.out teF (by decide), s4⟩⟩, ?_, ?_⟩
            · refine OwnsF.low (B := w.heap.size + 1) ?_ (by omega)
              repeat (first | (with_reducible refine OwnsF.farG ?_ ?_ _; rotate_left; omega) | (with_reducible refine OwnsF.butG ?_ gne _) | (with_reducible refine OwnsF.alloc ?_ _))
              exact HO9.out
            · repeat (first | (with_reducible refine Cur.far ?_ ?_ _; rotate_left; omega) | (with_reducible refine Cur.more ?_ _))
              exact HC9.out
            · repeat (first | (with_reducible refine Beside.far ?_ ?_ _; rotate_left; omega) | (with_reducible refine Beside.more ?_ _))
              exact HB9.out
      | false =>
        obtain ⟨b0, b1, b2, bf⟩ := box3 tY
        have tY' := heap_setCell_same y2 g 2 _ _ (.string ⟨#[]⟩) tY
        have rY' : (y2.setCell ⟨g, 2, none⟩ (.string ⟨#[]⟩)).heap[w.heap.size]? = some (.cells #[.int .i64 0, .slice none 0 0, .string ⟨#[]⟩] 30) := by rw [heap_setCell_other y2 ⟨g, 2, none⟩ w.heap.size _ (by show w.heap.size ≠ g; omega)]; exact rY
        have oY' := oY.butG (k := 2) gne (.string ⟨#[]⟩)
        have cY' : Cur (y2.setCell ⟨g, 2, none⟩ (.string ⟨#[]⟩)) b sa sl sc := cY.far (by omega) _
        have wY' : Beside b w (y2.setCell ⟨g, 2, none⟩ (.string ⟨#[]⟩)) := wY.far (by omega) _
        go_wp2_with fail
        generalize y2.setCell ⟨g, 2, none⟩ (.string ⟨#[]⟩) = y3 at tY' rY' oY' cY' wY' ⊢
        clear tY rY oY cY wY b0 b1 b2 bf
        have tY : y3.heap[g]? = some (.cells #[.int .i64 r.s, .slice A5 r.l.length cap5, .string ⟨#[]⟩] 30) := tY'
        have rY := rY'
        have oY := oY'
        have cY := cY'
        have wY := wY'
        clear tY' rY' oY' cY' wY'
        go_wp2_with fail
        refine (l1Once b sa sl sc 12 (by decide) (by decide) y3 cY).mono ?_
        rintro e y5 ⟨t5, rfl, hc5, hb5⟩
        have r5 := hb5.at (by omega) rY
        have t5' := hb5.at hgb tY
        have o5 := oY.keep hb5.keep hbn
        have w5 := wY.trans hb5
        clear rY tY oY hb5 wY cY
        cases t5 with
        | false =>
          have T9 := t5'
          have R9 := r5
          have HO9 : Hid (OwnsF y5 (w.heap.size + 1) (.slice A5 r.l.length cap5) r.l) := o5
          have HC9 : Hid (Cur y5 b sa sl sc) := hc5
          have HB9 : Hid (Beside b w y5) := w5
          clear t5' r5 o5 hc5 w5
          obtain ⟨c0, c1, c2, cf⟩ := box3 T9
          obtain ⟨d0, d1, d2, df⟩ := box3 R9
          have hgn' : w.heap.size ≠ g := by omega
          clear T9 R9
          go_wp2
          refine bodyPost_ret (v := .agg #[.int .i64 (r.s), .slice A5 r.l.length cap5, .string ⟨#[]⟩]) (by simp [results, Tryz.results58, go_sem, d0, d1, d2]) rfl ⟨⟨⟨r.s, r.l, ⟨#[]⟩⟩, .slice A5 r.l.length cap5, rfl, ?_, ⟨s3.more, Nat.zero_le _⟩⟩, ?_, ?_⟩
          · refine OwnsF.low (B := w.heap.size + 1) ?_ (by omega)
            repeat (first | (with_reducible refine OwnsF.farG ?_ ?_ _; rotate_left; omega) | (with_reducible refine OwnsF.butG ?_ gne _) | (with_reducible refine OwnsF.alloc ?_ _))
            exact HO9.out
          · repeat (first | (with_reducible refine Cur.far ?_ ?_ _; rotate_left; omega) | (with_reducible refine Cur.more ?_ _))
            exact HC9.out
          · repeat (first | (with_reducible refine Beside.far ?_ ?_ _; rotate_left; omega) | (with_reducible refine Beside.more ?_ _))
            exact HB9.out
        | true =>
          go_wp2_with fail
          refine (l1Below b sa sl sc 2 (by decide) (by decide) y5 hc5).mono ?_
          rintro e y6 ⟨z, rfl, hz0, hz1, hc6, hb6⟩
          have r6 := hb6.at (by omega) r5
          have t6 := hb6.at hgb t5'
          have o6 := o5.keep hb6.keep hbn
          have w6 := w5.trans hb6
          have hy6 : b < y6.heap.size := hc6.2.2.1
          clear r5 t5' o5 hb6 w5 hc5
          rcases (show z = 0 ∨ z = 1 by omega) with rfl | rfl
          · have hba := (Below.refl y6.heap.size y6).alloc (Nat.le_refl _) (.cells tabS1 2)
            have ta := heap_alloc_new y6 (.cells tabS1 2)
            go_wp2_with fail
            refine (l1Below b sa sl sc 4 (by decide) (by decide) (y6.alloc (.cells tabS1 2)) (hc6.kept hba hy6)).mono ?_
            rintro e y7 ⟨z, rfl, hw0, hw1, hc7, hb7⟩
            obtain ⟨k, rfl⟩ : ∃ k : Nat, z = k := ⟨z.toNat, by omega⟩
            have r7 := hb7.at (by omega) (below_block r6 hba)
            have t7 := hb7.at hgb (below_block t6 hba)
            have o7 := (o6.alloc (.cells tabS1 2)).keep hb7.keep hbn
            have ta7 := hb7.at (by omega) ta
            have w7 := (w6.below hba).trans hb7
            obtain ⟨s, hs⟩ := tabS1_at k (by omega)
            have cs : y7.cell? ⟨y6.heap.size, k, none⟩ = some (.int .i64 s) := by rw [cell_of_row y7 _ k _ _ _ ta7]; exact hs
            obtain ⟨b0, b1, b2, bf⟩ := box3 t7
            have T9 := heap_setCell_same y7 g 0 _ _ (.int .i64 s) t7
            have R9 : (y7.setCell ⟨g, 0, none⟩ (.int .i64 s)).heap[w.heap.size]? = some (.cells #[.int .i64 0, .slice none 0 0, .string ⟨#[]⟩] 30) := by rw [heap_setCell_other y7 ⟨g, 0, none⟩ w.heap.size _ (by show w.heap.size ≠ g; omega)]; exact r7
            have gne := own_ne o7 t7 (by decide)
            have HO9 : Hid (OwnsF y7 (w.heap.size + 1) (.slice A5 r.l.length cap5) r.l) := o7
            have HC9 : Hid (Cur y7 b sa sl sc) := hc7
            have HB9 : Hid (Beside b w y7) := w7
            have hgn3 : y6.heap.size ≠ g := fun e => by rw [← e] at t6; have := (Array.getElem?_eq_some_iff.1 t6).1; omega
            clear ta ta7 r6 t6 r7 t7 o6 o7 hb7 hba hs w6 w7 hc6 hc7
            obtain ⟨c0, c1, c2, cf⟩ := box3 T9
            obtain ⟨d0, d1, d2, df⟩ := box3 R9
            have hgn' : w.heap.size ≠ g := by omega
            clear T9 R9
            go_wp2
            refine bodyPost_ret (v := .agg #[.int .i64 (s), .slice A5 r.l.length cap5, .string ⟨#[]⟩]) (by simp [results, Tryz.results58, go_sem, d0, d1, d2]) rfl ⟨⟨⟨s, r.l, ⟨#[]⟩⟩, .slice A5 r.l.length cap5, rfl, ?_, ⟨s3.more, Nat.zero_le _⟩⟩, ?_, ?_⟩
            · refine OwnsF.low (B := w.heap.size + 1) ?_ (by omega)
              repeat (first | (with_reducible refine OwnsF.farG ?_ ?_ _; rotate_left; omega) | (with_reducible refine OwnsF.butG ?_ gne _) | (with_reducible refine OwnsF.alloc ?_ _))
              exact HO9.out
            · repeat (first | (with_reducible refine Cur.far ?_ ?_ _; rotate_left; omega) | (with_reducible refine Cur.more ?_ _))
              exact HC9.out
            · repeat (first | (with_reducible refine Beside.far ?_ ?_ _; rotate_left; omega) | (with_reducible refine Beside.more ?_ _))
              exact HB9.out
          · have hnz : w.heap.size < y6.heap.size := (Array.getElem?_eq_some_iff.1 r6).1
            obtain ⟨b0, b1, b2, bf⟩ := box3 t6
            have HO2 : Hid (OwnsF y6 (w.heap.size + 1) (.slice A5 r.l.length cap5) r.l) := o6
            have HT2 : Hid (y6.heap[g]? = some (.cells #[.int .i64 r.s, .slice A5 r.l.length cap5, .string ⟨#[]⟩] 30)) := t6
            have HR2 : Hid (y6.heap[w.heap.size]? = some (.cells #[.int .i64 0, .slice none 0 0, .string ⟨#[]⟩] 30)) := r6
            have hl5 : r.l.length ≤ 31 := s3.1
            clear t6 r6 o6
            go_wp2_with (at_builtin; refine wpList_pushF _ rfl (.tmp 38) (.tmp 40) rfl (w.heap.size + 1) _ r.l teF rfl HO2.out rfl (by omega) (by omega) ?_; intro v3 y7 ho3 hg3; have hown3 : ∀ k, (Value.slice A5 r.l.length cap5).ownBlock = some k → w.heap.size + 1 ≤ k := OwnsF.from HO2.out; have gne0 : ∀ k, (Value.slice A5 r.l.length cap5).ownBlock = some k → k ≠ g := own_ne HO2.out HT2.out (by decide); have t7 : y7.heap[g]? = some (.cells #[.int .i64 r.s, .slice A5 r.l.length cap5, .string ⟨#[]⟩] 30) := (by rw [hg3.block g (Array.getElem?_eq_some_iff.1 HT2.out).1 (fun e => gne0 g e.symm rfl)]; exact HT2.out); have r7 : y7.heap[w.heap.size]? = some (.cells #[.int .i64 0, .slice none 0 0, .string ⟨#[]⟩] 30) := (by rw [hg3.block w.heap.size (Array.getElem?_eq_some_iff.1 HR2.out).1 (fun e => by have := hown3 _ e.symm; omega)]; exact HR2.out); have HC9 : Hid (Cur y7 b sa sl sc) := hc6.kept (grown_low hg3 (fun k hk => hown3 k hk) (by omega)) (by omega); have HB9 : Hid (Beside b w y7) := w6.grown hg3 (fun k hk => by have := hown3 k hk; omega); have f3' := ho3.form; obtain ⟨A6, cap6, rfl, _⟩ := f3'; obtain ⟨n6, hn6⟩ : ∃ n, (r.l ++ [teF]).length = n := ⟨_, rfl⟩; rw [hn6] at ho3 ⊢; have b0' := (box3 t7).1; have b1' := (box3 t7).2.1; have b2' := (box3 t7).2.2.1; have bf' := (box3 t7).2.2.2; have T9 := heap_setCell_same y7 g 1 _ _ (.slice A6 n6 cap6) t7; have R9 : (y7.setCell ⟨g, 1, none⟩ (.slice A6 n6 cap6)).heap[w.heap.size]? = some (.cells #[.int .i64 0, .slice none 0 0, .string ⟨#[]⟩] 30) := (by rw [heap_setCell_other y7 ⟨g, 1, none⟩ w.heap.size _ (by show w.heap.size ≠ g; omega)]; exact r7); have gne := own_ne ho3 t7 (by decide); have HO9 : Hid (OwnsF y7 (w.heap.size + 1) (.slice A6 n6 cap6) (r.l ++ [teF])) := ho3; obtain ⟨c0, c1, c2, cf⟩ := box3 T9; obtain ⟨d0, d1, d2, df⟩ := box3 R9; have hgn' : w.heap.size ≠ g := (by omega); clear T9 R9 t7 r7 ho3 hg3; have HN6 : Hid (r.l.length ≤ 39) := (by show r.l.length ≤ 39; omega); clear hn6)
            refine bodyPost_ret (v := .agg #[.int .i64 r.s, .slice A6 n6 cap6, .string ⟨#[]⟩]) (by simp [results, Tryz.results58, go_sem, d0, d1, d2]) rfl ⟨⟨⟨r.s, r.l ++ [teF], ⟨#[]⟩⟩, .slice A6 n6 cap6, rfl, ?_, ⟨small_more s3.more HN6.out teF (by decide), Nat.zero_le _⟩⟩, ?_, ?_⟩
            · refine OwnsF.low (B := w.heap.size + 1) ?_ (by omega)
              repeat (first | (with_reducible refine OwnsF.farG ?_ ?_ _; rotate_left; omega) | (with_reducible refine OwnsF.butG ?_ gne _) | (with_reducible refine OwnsF.alloc ?_ _))
              exact HO9.out
            · repeat (first | (with_reducible refine Cur.far ?_ ?_ _; rotate_left; omega) | (with_reducible refine Cur.more ?_ _))
              exact HC9.out
            · repeat (first | (with_reducible refine Beside.far ?_ ?_ _; rotate_left; omega) | (with_reducible refine Beside.more ?_ _))
              exact HB9.out
end Go.Proofs.YtnachhmhjodbhaaGreatDoor

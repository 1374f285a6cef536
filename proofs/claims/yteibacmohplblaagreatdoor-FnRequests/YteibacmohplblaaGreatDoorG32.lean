/-
  Drawn requests: whatever the code, a small request.
  Drawn responses: whatever the code, a small response.
-/
import Derived.Test.YteibacmohplblaaGreatDoorG30
import Derived.Test.YteibacmohplblaaGreatDoorG31
namespace Go.Proofs.YteibacmohplblaaGreatDoor
open Go.RowKit Go.Sort
set_option linter.unusedVariables false

def TabT (b : Nat) (w : World) (g : Nat) (tab : Array Value) (ty : TypeId) : Prop := w.heap[g]? = some (.cells tab ty (0, 0)) ∧ g ≠ b
def hasTabT (b : Nat) (w : World) (v : Value) (n : Nat) (tab : Array Value) (ty : TypeId) : Prop := ∃ g, v = .slice (some ⟨g, 0, none⟩) n n ∧ TabT b w g tab ty
def hasPtT (b : Nat) (w : World) (v : Value) (n : Nat) (tab : Array Value) (ty : TypeId) : Prop := ∃ g x, v = .pointer (some ⟨g, x, none⟩) ∧ x < n ∧ TabT b w g tab ty
def hasIt (v : Value) : Prop := ∃ z : Int, v = .int .i64 z
theorem hasTabT.keep {b : Nat} {w w' : World} {v : Value} {n : Nat} {tab : Array Value} {ty : TypeId} (h : hasTabT b w v n tab ty) (k : Keep b w w') : hasTabT b w' v n tab ty := by obtain ⟨g, h1, h2⟩ := h; exact ⟨g, h1, k g _ h2.2 h2.1, h2.2⟩
theorem hasPtT.keep {b : Nat} {w w' : World} {v : Value} {n : Nat} {tab : Array Value} {ty : TypeId} (h : hasPtT b w v n tab ty) (k : Keep b w w') : hasPtT b w' v n tab ty := by obtain ⟨g, x, h1, h2, h3⟩ := h; exact ⟨g, x, h1, h2, k g _ h3.2 h3.1, h3.2⟩
theorem frozen_of_row {w : World} {g : Nat} {c : Array Value} {T : TypeId} (h : w.heap[g]? = some (.cells c T (0, 0))) (k : Nat) : w.frozen? ⟨g, k, none⟩ = false := by simp [World.frozen?, h]
theorem box4 {w : World} {g : Nat} {c0 c1 c2 c3 : Value} {T : TypeId} (h : w.heap[g]? = some (.cells #[c0, c1, c2, c3] T (0, 0))) : w.cell? ⟨g, 0, none⟩ = some c0 ∧ w.cell? ⟨g, 1, none⟩ = some c1 ∧ w.cell? ⟨g, 2, none⟩ = some c2 ∧ w.cell? ⟨g, 3, none⟩ = some c3 ∧ ∀ k, w.frozen? ⟨g, k, none⟩ = false :=
  ⟨by rw [cell_of_row w g 0 _ _ _ h]; rfl, by rw [cell_of_row w g 1 _ _ _ h]; rfl, by rw [cell_of_row w g 2 _ _ _ h]; rfl, by rw [cell_of_row w g 3 _ _ _ h]; rfl, fun k => frozen_of_row h k⟩
theorem OwnsF.farG {w : World} {B b k : Nat} {v : Value} {l : List Fl} (h : OwnsF w B v l) (hb : b < B) (x : Value) : OwnsF (w.setCell ⟨b, k, none⟩ x) B v l := by
  refine ⟨h.1, ?_⟩
  rcases h.2 with h0 | ⟨g, cap, cur, hv, hbg, hg, rest⟩
  · exact .inl h0
  · exact .inr ⟨g, cap, cur, hv, hbg, by rw [Below.heap_setCell _ _ _ _ (by show g ≠ b; omega)]; exact hg, rest⟩
def clF : Fl := (⟨#[67, 111, 110, 116, 101, 110, 116, 45, 76, 101, 110, 103, 116, 104]⟩, ⟨#[49]⟩)
theorem small_more {l : List Fl} (h : SmallG l) (hl : l.length ≤ 39) (f : Fl) (hf : f.1.size ≤ 20 ∧ f.2.size ≤ 20) : SmallG (l ++ [f]) := ⟨by rw [List.length_append, List.length_singleton]; omega, fun x hx => by rcases List.mem_append.1 hx with hx | hx; exact h.2 x hx; simp at hx; subst hx; exact hf⟩
/-- A row lies in no block of another type. -/
theorem own_ne {w : World} {B g : Nat} {v : Value} {l : List Fl} {c : Array Value} {T : TypeId} {fr : Nat × Nat} (h : OwnsF w B v l) (hg : w.heap[g]? = some (.cells c T fr)) (hT : T ≠ 81) : ∀ k, v.ownBlock = some k → k ≠ g := by
  intro k hk e
  subst e
  rcases h.2 with ⟨h0, _⟩ | ⟨g', cap, cur, hv, hbg, hg', rest⟩
  · rw [h0] at hk; cases hk
  · rw [hv] at hk
    injection hk with hk
    rw [← hk, hg'] at hg
    injection hg with e
    injection e with _ e _
    exact hT e.symm
theorem OwnsF.butG {w : World} {B g k : Nat} {v : Value} {l : List Fl} (h : OwnsF w B v l) (hne : ∀ j, v.ownBlock = some j → j ≠ g) (x : Value) : OwnsF (w.setCell ⟨g, k, none⟩ x) B v l := by
  refine ⟨h.1, ?_⟩
  rcases h.2 with h0 | ⟨g', cap, cur, hv, hbg, hg', rest⟩
  · exact .inl h0
  · exact .inr ⟨g', cap, cur, hv, hbg, by rw [Below.heap_setCell _ _ _ _ (hne g' (by rw [hv]; rfl))]; exact hg', rest⟩
def zerosT (n : Nat) : ByteArray := ⟨(List.replicate n (0 : UInt8)).toArray⟩
theorem make_own5 (w : World) (n : Nat) (hn : n ≤ 10000) : ∃ w', (Instr.makeSlice 22 (.int .i64 (n : Int)) (.int .i64 (n : Int))).run Tryz.prog w = .ok (.slice (some ⟨w.heap.size, 0, none⟩) n n) w' ∧ Below w.heap.size w w' ∧ OwnsB w' w.heap.size (.slice (some ⟨w.heap.size, 0, none⟩) n n) (List.replicate n 0) := by
  obtain ⟨i0, hi, hz0, hz1, hz2⟩ := info_parts Tryz.info5
  obtain ⟨w', h1, h2, h3⟩ := run_makeSlice_full (P := Tryz.prog) w w.heap.size 22 5 i0 (.int .u8 0) 1 Tryz.underlying22 hi hz0 hz1 .i64 .i64 n (by omega) (by rw [hz2]; omega) (by unfold maxLen; omega) (Nat.le_refl _)
  have hl : (madeCells (Value.int IntKind.u8 0).cells (n * 1)).toList = bytesV (List.replicate n 0) := by
    have e := toList_madeCells_one (.int .u8 0) (n * 1)
    rw [show (Value.int IntKind.u8 0).cells = #[.int .u8 0] from rfl, e, Nat.mul_one]
    unfold bytesV
    rw [List.map_replicate]
    rfl
  rw [hl] at h2
  refine ⟨w', h1, (Below.refl _ w).grown h3 (Nat.le_refl _) (fun j hj => by cases hj), ?_⟩
  unfold OwnsB
  rw [List.length_replicate]
  exact h2
theorem pickZ (w : World) (k : Nat) (z : ByteArray) (hz : z.size ≤ 250) (hk : k < 4) : ∃ s : ByteArray, (w.alloc (.cells #[.string ⟨#[]⟩, .string ⟨#[47, 97, 32, 98]⟩, .string ⟨#[47, 127]⟩, .string z] 9)).cell? ⟨w.heap.size, k, none⟩ = some (.string s) ∧ (#[.string ⟨#[]⟩, .string ⟨#[47, 97, 32, 98]⟩, .string ⟨#[47, 127]⟩, .string z] : Array Value)[k]? = some (.string s) ∧ s.size ≤ 250 := by
  rw [World.cell?_alloc_mark]
  rcases (show k = 0 ∨ k = 1 ∨ k = 2 ∨ k = 3 by omega) with rfl | rfl | rfl | rfl
  · exact ⟨_, rfl, rfl, by decide⟩
  · exact ⟨_, rfl, rfl, by decide⟩
  · exact ⟨_, rfl, rfl, by decide⟩
  · exact ⟨z, rfl, rfl, hz⟩
def BoxQ (b n : Nat) (w : World) (g : Nat) (r : Rq) (u : Value) : Prop := w.heap[g]? = some (.cells #[.string r.m, .string r.t, u, .string r.b] 26 (0, 0)) ∧ g ≠ b ∧ n + 1 ≤ g
theorem BoxQ.keep {b n : Nat} {w w' : World} {g : Nat} {r : Rq} {u : Value} (h : BoxQ b n w g r u) (k : Keep b w w') : BoxQ b n w' g r u := ⟨k g _ h.2.1 h.1, h.2⟩
def SmallQ (r : Rq) : Prop := r.m.size ≤ 10 ∧ r.t.size ≤ 250 ∧ SmallG r.l ∧ r.b.size ≤ 4100
def SmallQ0 (r : Rq) : Prop := r.m.size ≤ 10 ∧ r.t.size ≤ 250 ∧ SmallF r.l ∧ r.b.size ≤ 4100
def hasFl0 (n : Nat) (w : World) (v : Value) : Prop := ∃ l, OwnsF w n v l ∧ SmallF l
def hasQ (n : Nat) (w : World) (v : Value) : Prop := ∃ r u, v = rqV r u ∧ OwnsF w n u r.l ∧ SmallQ0 r
def hasBoxQ (b n : Nat) (w : World) (v : Value) : Prop := ∃ g, v = .pointer (some ⟨g, 0, none⟩) ∧ BoxQ b n w g noQ (.slice none 0 0)
def tabQ0 : Array Value := #[.string ⟨#[71, 69, 84]⟩, .string ⟨#[80, 85, 84]⟩, .string ⟨#[71, 69, 84]⟩, .string ⟨#[88]⟩]
def tabQ1 : Array Value := #[.string ⟨#[47]⟩, .string ⟨#[47, 97, 63, 98]⟩, .string ⟨#[42]⟩, .string ⟨#[47, 37, 50, 48]⟩]
def tabQ2 : Array Value := #[.string ⟨#[]⟩, .string ⟨#[103, 101, 116]⟩, .string ⟨#[71, 32, 84]⟩]
theorem tabQ0_at (x : Nat) (h : x < 4) : ∃ s : ByteArray, tabQ0[x]? = some (.string s) ∧ s.size ≤ 10 := by
  rcases (show x = 0 ∨ x = 1 ∨ x = 2 ∨ x = 3 by omega) with rfl | rfl | rfl | rfl <;> exact ⟨_, rfl, by decide⟩
theorem tabQ1_at (x : Nat) (h : x < 4) : ∃ s : ByteArray, tabQ1[x]? = some (.string s) ∧ s.size ≤ 10 := by
  rcases (show x = 0 ∨ x = 1 ∨ x = 2 ∨ x = 3 by omega) with rfl | rfl | rfl | rfl <;> exact ⟨_, rfl, by decide⟩
theorem tabQ2_at (x : Nat) (h : x < 3) : ∃ s : ByteArray, tabQ2[x]? = some (.string s) ∧ s.size ≤ 10 := by
  rcases (show x = 0 ∨ x = 1 ∨ x = 2 by omega) with rfl | rfl | rfl <;> exact ⟨_, rfl, by decide⟩
def GQ (b n : Nat) (w : World) (i : Nat) (v : Value) : Prop := match i with
  | 0 => hasTabT b w v 4 tabQ0 9
  | 1 => v = .pointer (some ⟨b, 0, none⟩)
  | 2 => hasNum v 4
  | 3 => hasPtT b w v 4 tabQ0 9
  | 4 => hasTxt v 10
  | 5 => hasTabT b w v 4 tabQ1 9
  | 6 => v = .pointer (some ⟨b, 0, none⟩)
  | 7 => hasNum v 4
  | 8 => hasPtT b w v 4 tabQ1 9
  | 9 => hasTxt v 10
  | 10 => v = .pointer (some ⟨b, 0, none⟩)
  | 11 => hasFl0 (n + 1) w v
  | 12 => v = .pointer (some ⟨b, 0, none⟩)
  | 13 => hasTxt v 8
  | 14 => hasQ (n + 1) w v
  | 15 => hasBoxQ b n w v
  | _ => True
def dQ (i : Nat) : Nat := if i = 15 then 3 else i + 4
theorem dQ_inj {i j : Nat} (hi : i < 16) (hj : j < 16) (h : j ≠ i) : dQ j ≠ dQ i := by unfold dQ; split <;> split <;> omega
theorem GQ.keep {b n : Nat} {w w' : World} (hk : Keep b w w') (hb : b < n + 1) (j : Nat) (u : Value) (hj : j < 16) (h : GQ b n w j u) : GQ b n w' j u := by
  rcases (show j = 0 ∨ j = 1 ∨ j = 2 ∨ j = 3 ∨ j = 4 ∨ j = 5 ∨ j = 6 ∨ j = 7 ∨ j = 8 ∨ j = 9 ∨ j = 10 ∨ j = 11 ∨ j = 12 ∨ j = 13 ∨ j = 14 ∨ j = 15 by omega) with rfl | rfl | rfl | rfl | rfl | rfl | rfl | rfl | rfl | rfl | rfl | rfl | rfl | rfl | rfl | rfl
  · exact hasTabT.keep h hk
  · exact h
  · exact h
  · exact hasPtT.keep h hk
  · exact h
  · exact hasTabT.keep h hk
  · exact h
  · exact h
  · exact hasPtT.keep h hk
  · exact h
  · exact h
  · obtain ⟨l, h1, h2⟩ := h; exact ⟨l, h1.keep hk hb, h2⟩
  · exact h
  · exact h
  · obtain ⟨r, u, h0, h1, h2⟩ := h; exact ⟨r, u, h0, h1.keep hk hb, h2⟩
  · obtain ⟨g, h0, h1⟩ := h; exact ⟨g, h0, h1.keep hk⟩
def frQ (b n : Nat) (t : Nat → Value) : Act := { tmps := #[.pointer (some ⟨b, 0, none⟩), undef, .pointer (some ⟨n, 0, none⟩), t 3, t 4, t 5, t 6, t 7, t 8, t 9, t 10, t 11, t 12, t 13, t 14, t 15, t 16, t 17, t 18, undef, undef, undef, undef, undef, undef, undef, undef, undef, undef, undef, undef, undef, undef, undef, undef, undef, undef, undef, undef, undef, undef, undef, undef, undef, undef, undef, undef, undef, undef, undef, undef, undef, undef, undef, undef, undef, undef, undef], defers := [] }
def FinQ (b n : Nat) (t : Nat → Value) (w : World) : Prop := ∃ g r u, t 3 = .pointer (some ⟨g, 0, none⟩) ∧ BoxQ b n w g r u ∧ OwnsF w (n + 1) u r.l ∧ SmallQ0 r
def InvQ (b n : Nat) (sa : Option Addr) (sl sc : Nat) (w0 : World) (L : Nat → Bool) (a : Act) (w : World) : Prop :=
  ∃ t, a = frQ b n t ∧ Cur w b sa sl sc ∧ Beside b w0 w ∧ n + 1 ≤ w.heap.size ∧ CondG (GQ b n) dQ 16 (FinQ b n) L t w

set_option maxRecDepth 100000 in
set_option maxHeartbeats 8000000 in
theorem l6DrawQ (b : Nat) (sa : Option Addr) (sl sc : Nat) (w : World) (hc : Cur w b sa sl sc) :
    Calls Tryz.prog 55 #[.pointer (some ⟨b, 0, none⟩)] w fun e w' => (∃ r u, e = .returned (rqV r u) ∧ OwnsF w' w.heap.size u r.l ∧ SmallQ r) ∧ Cur w' b sa sl sc ∧ Beside b w w' := by
  have hbz : b < w.heap.size := hc.2.2.1
  have hbn : b < w.heap.size + 1 := by omega
  have hent : ∀ args w, (callFunc 64 args).run Tryz.prog w = .ok (.enter 64 args) w := Go.Proofs.enters_of Tryz.func64 (by kernel_rfl) rfl
  have hent4 : ∀ args w, (callFunc 63 args).run Tryz.prog w = .ok (.enter 63 args) w := Go.Proofs.enters_of Tryz.func63 (by kernel_rfl) rfl
  have hent1 : ∀ args w, (callFunc 56 args).run Tryz.prog w = .ok (.enter 56 args) w := Go.Proofs.enters_of Tryz.func56 (by kernel_rfl) rfl
  have hb0 := (Below.refl w.heap.size w).alloc (Nat.le_refl _) (.cells #[.string ⟨#[]⟩, .string ⟨#[]⟩, .slice none 0 0, .string ⟨#[]⟩] 26)
  go_enter Tryz.func55, Tryz.ntmps55
  go_wp2
  refine region_inv mixed (InvQ b w.heap.size sa sl sc (w.alloc (.cells #[.string ⟨#[]⟩, .string ⟨#[]⟩, .slice none 0 0, .string ⟨#[]⟩] 26))) ?h0 ?step ?back ?done
  case h0 =>
    refine ⟨fun _ => undef, rfl, ?_, ?_, ?_, CondG.none⟩
    · exact hc.kept (show Below w.heap.size w (w.alloc (.cells #[.string ⟨#[]⟩, .string ⟨#[]⟩, .slice none 0 0, .string ⟨#[]⟩] 26)).drew from ⟨hb0.os, hb0.tape, hb0.output, hb0.size, hb0.block⟩) hbz
    · exact ⟨rfl, rfl, rfl, Nat.le_refl _, fun _ _ _ => rfl⟩
    · show w.heap.size + 1 ≤ (w.alloc (.cells #[.string ⟨#[]⟩, .string ⟨#[]⟩, .slice none 0 0, .string ⟨#[]⟩] 26)).heap.size
      simp
  case step =>
    intro L a x i o K ho hi hdep hI hK
    obtain ⟨t, rfl, hcur, hbes, hsz, C⟩ := hI
    have hxz : b < x.heap.size := hcur.2.2.1
    have hlt : i < 17 := (Array.getElem?_eq_some_iff.1 ho).1
    rcases (show i = 0 ∨ i = 1 ∨ i = 2 ∨ i = 3 ∨ i = 4 ∨ i = 5 ∨ i = 6 ∨ i = 7 ∨ i = 8 ∨ i = 9 ∨ i = 10 ∨ i = 11 ∨ i = 12 ∨ i = 13 ∨ i = 14 ∨ i = 15 ∨ i = 16 by omega) with rfl | rfl | rfl | rfl | rfl | rfl | rfl | rfl | rfl | rfl | rfl | rfl | rfl | rfl | rfl | rfl | rfl
    all_goals obtain rfl := Option.some.inj ho
    · have hba := (Below.refl x.heap.size x).alloc (Nat.le_refl _) (.cells tabQ0 9)
      have HK : Hid (K (frQ b w.heap.size (upd t 4 (.slice (some ⟨x.heap.size, 0, none⟩) 4 4))) (x.alloc (.cells tabQ0 9))) := hK _ _ ⟨_, rfl, hcur.kept hba hxz, hbes.below hba, by simp; omega, C.put hi (by omega) (fun j hj hne => dQ_inj (by omega) hj hne) (fun j u hj h => GQ.keep (Keep.alloc b x _) hbn j u hj h) ⟨x.heap.size, rfl, heap_alloc_new x _, by omega⟩⟩
      unfold frQ
      go_simp
      exact HK.out
    · have HK : Hid (K (frQ b w.heap.size (upd t 5 (.pointer (some ⟨b, 0, none⟩)))) x) := hK _ _ ⟨_, rfl, hcur, hbes, hsz, C.put hi (by omega) (fun j hj hne => dQ_inj (by omega) hj hne) (fun j u hj h => GQ.keep (Keep.refl b x) hbn j u hj h) rfl⟩
      unfold frQ
      go_simp
      exact HK.out
    · have l1 := hdep { on := 1, ground := Ground.data } (by simp) rfl
      have e5 : t 5 = .pointer (some ⟨b, 0, none⟩) := C.got hi (by omega) 1 (by omega) l1
      refine step_call2 rfl 64 (.tmp 5) (.const (.int .i64 4)) _ rfl (.pointer (some ⟨b, 0, none⟩)) (.int .i64 4) e5 rfl (hent _) (fun u y => ∃ z : Int, u = .int .i64 z ∧ 0 ≤ z ∧ z < 4 ∧ Cur y b sa sl sc ∧ Beside b x y) ((l1Below b sa sl sc 4 (by decide) (by decide) x hcur).mono fun e y ⟨z, h0, h1, h2, h3, h4⟩ => ⟨_, h0, z, rfl, h1, h2, h3, h4⟩) ?_
      rintro u y ⟨z, rfl, hz0, hz1, hc1, hb1⟩
      exact hK _ _ ⟨upd t 6 (.int .i64 z), rfl, hc1, hbes.trans hb1, Nat.le_trans hsz hb1.2.2.2.1, C.put hi (by omega) (fun j hj hne => dQ_inj (by omega) hj hne) (fun j u hj h => GQ.keep hb1.keep hbn j u hj h) ⟨z.toNat, by rw [Int.toNat_of_nonneg hz0], by omega⟩⟩
    · have l0 := hdep { on := 0, ground := Ground.data } (by simp) rfl
      have l2 := hdep { on := 2, ground := Ground.data } (by simp) rfl
      obtain ⟨g, e4, hT⟩ : hasTabT b x (t 4) 4 tabQ0 9 := C.got hi (by omega) 0 (by omega) l0
      obtain ⟨z, e6, hz⟩ : hasNum (t 6) 4 := C.got hi (by omega) 2 (by omega) l2
      have hzI : (z : Int) < 4 := by omega
      have HK : Hid (K (frQ b w.heap.size (upd t 7 (.pointer (some ⟨g, z, none⟩)))) x) := hK _ _ ⟨_, rfl, hcur, hbes, hsz, C.put hi (by omega) (fun j hj hne => dQ_inj (by omega) hj hne) (fun j u hj h => GQ.keep (Keep.refl b x) hbn j u hj h) ⟨g, z, rfl, hz, hT⟩⟩
      unfold frQ
      go_simp
      have h2 := HK.out
      unfold frQ upd at h2
      simpa [e4, e6] using h2
    · have l3 := hdep { on := 3, ground := Ground.data } (by simp) rfl
      obtain ⟨g, z, e7, hz, hT⟩ : hasPtT b x (t 7) 4 tabQ0 9 := C.got hi (by omega) 3 (by omega) l3
      obtain ⟨s, hs, hss⟩ := tabQ0_at z hz
      have c0 : x.cell? ⟨g, z, none⟩ = some (.string s) := by rw [cell_of_row x g z _ _ _ hT.1]; exact hs
      have HK : Hid (K (frQ b w.heap.size (upd t 8 (.string s))) x) := hK _ _ ⟨_, rfl, hcur, hbes, hsz, C.put hi (by omega) (fun j hj hne => dQ_inj (by omega) hj hne) (fun j u hj h => GQ.keep (Keep.refl b x) hbn j u hj h) ⟨s, rfl, hss⟩⟩
      unfold frQ
      go_simp
      have h2 := HK.out
      unfold frQ upd at h2
      simpa [e7] using h2
    · have hba := (Below.refl x.heap.size x).alloc (Nat.le_refl _) (.cells tabQ1 9)
      have HK : Hid (K (frQ b w.heap.size (upd t 9 (.slice (some ⟨x.heap.size, 0, none⟩) 4 4))) (x.alloc (.cells tabQ1 9))) := hK _ _ ⟨_, rfl, hcur.kept hba hxz, hbes.below hba, by simp; omega, C.put hi (by omega) (fun j hj hne => dQ_inj (by omega) hj hne) (fun j u hj h => GQ.keep (Keep.alloc b x _) hbn j u hj h) ⟨x.heap.size, rfl, heap_alloc_new x _, by omega⟩⟩
      unfold frQ
      go_simp
      exact HK.out
    · have HK : Hid (K (frQ b w.heap.size (upd t 10 (.pointer (some ⟨b, 0, none⟩)))) x) := hK _ _ ⟨_, rfl, hcur, hbes, hsz, C.put hi (by omega) (fun j hj hne => dQ_inj (by omega) hj hne) (fun j u hj h => GQ.keep (Keep.refl b x) hbn j u hj h) rfl⟩
      unfold frQ
      go_simp
      exact HK.out
    · have l1 := hdep { on := 6, ground := Ground.data } (by simp) rfl
      have e5 : t 10 = .pointer (some ⟨b, 0, none⟩) := C.got hi (by omega) 6 (by omega) l1
      refine step_call2 rfl 64 (.tmp 10) (.const (.int .i64 4)) _ rfl (.pointer (some ⟨b, 0, none⟩)) (.int .i64 4) e5 rfl (hent _) (fun u y => ∃ z : Int, u = .int .i64 z ∧ 0 ≤ z ∧ z < 4 ∧ Cur y b sa sl sc ∧ Beside b x y) ((l1Below b sa sl sc 4 (by decide) (by decide) x hcur).mono fun e y ⟨z, h0, h1, h2, h3, h4⟩ => ⟨_, h0, z, rfl, h1, h2, h3, h4⟩) ?_
      rintro u y ⟨z, rfl, hz0, hz1, hc1, hb1⟩
      exact hK _ _ ⟨upd t 11 (.int .i64 z), rfl, hc1, hbes.trans hb1, Nat.le_trans hsz hb1.2.2.2.1, C.put hi (by omega) (fun j hj hne => dQ_inj (by omega) hj hne) (fun j u hj h => GQ.keep hb1.keep hbn j u hj h) ⟨z.toNat, by rw [Int.toNat_of_nonneg hz0], by omega⟩⟩
    · have l0 := hdep { on := 5, ground := Ground.data } (by simp) rfl
      have l2 := hdep { on := 7, ground := Ground.data } (by simp) rfl
      obtain ⟨g, e4, hT⟩ : hasTabT b x (t 9) 4 tabQ1 9 := C.got hi (by omega) 5 (by omega) l0
      obtain ⟨z, e6, hz⟩ : hasNum (t 11) 4 := C.got hi (by omega) 7 (by omega) l2
      have hzI : (z : Int) < 4 := by omega
      have HK : Hid (K (frQ b w.heap.size (upd t 12 (.pointer (some ⟨g, z, none⟩)))) x) := hK _ _ ⟨_, rfl, hcur, hbes, hsz, C.put hi (by omega) (fun j hj hne => dQ_inj (by omega) hj hne) (fun j u hj h => GQ.keep (Keep.refl b x) hbn j u hj h) ⟨g, z, rfl, hz, hT⟩⟩
      unfold frQ
      go_simp
      have h2 := HK.out
      unfold frQ upd at h2
      simpa [e4, e6] using h2
    · have l3 := hdep { on := 8, ground := Ground.data } (by simp) rfl
      obtain ⟨g, z, e7, hz, hT⟩ : hasPtT b x (t 12) 4 tabQ1 9 := C.got hi (by omega) 8 (by omega) l3
      obtain ⟨s, hs, hss⟩ := tabQ1_at z hz
      have c0 : x.cell? ⟨g, z, none⟩ = some (.string s) := by rw [cell_of_row x g z _ _ _ hT.1]; exact hs
      have HK : Hid (K (frQ b w.heap.size (upd t 13 (.string s))) x) := hK _ _ ⟨_, rfl, hcur, hbes, hsz, C.put hi (by omega) (fun j hj hne => dQ_inj (by omega) hj hne) (fun j u hj h => GQ.keep (Keep.refl b x) hbn j u hj h) ⟨s, rfl, hss⟩⟩
      unfold frQ
      go_simp
      have h2 := HK.out
      unfold frQ upd at h2
      simpa [e7] using h2
    · have HK : Hid (K (frQ b w.heap.size (upd t 14 (.pointer (some ⟨b, 0, none⟩)))) x) := hK _ _ ⟨_, rfl, hcur, hbes, hsz, C.put hi (by omega) (fun j hj hne => dQ_inj (by omega) hj hne) (fun j u hj h => GQ.keep (Keep.refl b x) hbn j u hj h) rfl⟩
      unfold frQ
      go_simp
      exact HK.out
    · have l1 := hdep { on := 10, ground := Ground.data } (by simp) rfl
      have e5 : t 14 = .pointer (some ⟨b, 0, none⟩) := C.got hi (by omega) 10 (by omega) l1
      refine step_call1 rfl 63 (.tmp 14) _ rfl (.pointer (some ⟨b, 0, none⟩)) e5 (hent4 _) (fun u y => ∃ l, OwnsF y x.heap.size u l ∧ SmallF l ∧ Cur y b sa sl sc ∧ Beside b x y) ((l4Draw b sa sl sc x hcur).mono fun e y ⟨⟨u, l, h0, h1, h2⟩, h3, h4⟩ => ⟨u, h0, l, h1, h2, h3, h4⟩) ?_
      rintro u y ⟨l, ho1, hs1, hc1, hb1⟩
      exact hK _ _ ⟨upd t 15 u, rfl, hc1, hbes.trans hb1, Nat.le_trans hsz hb1.2.2.2.1, C.put hi (by omega) (fun j hj hne => dQ_inj (by omega) hj hne) (fun j u hj h => GQ.keep hb1.keep hbn j u hj h) ⟨l, ho1.low hsz, hs1⟩⟩
    · have HK : Hid (K (frQ b w.heap.size (upd t 16 (.pointer (some ⟨b, 0, none⟩)))) x) := hK _ _ ⟨_, rfl, hcur, hbes, hsz, C.put hi (by omega) (fun j hj hne => dQ_inj (by omega) hj hne) (fun j u hj h => GQ.keep (Keep.refl b x) hbn j u hj h) rfl⟩
      unfold frQ
      go_simp
      exact HK.out
    · have l1 := hdep { on := 12, ground := Ground.data } (by simp) rfl
      have e5 : t 16 = .pointer (some ⟨b, 0, none⟩) := C.got hi (by omega) 12 (by omega) l1
      refine step_call rfl 56 #[.tmp 16, .const (.string ⟨#[97, 98, 13, 10]⟩), .const (.int .i64 8)] _ rfl #[.pointer (some ⟨b, 0, none⟩), .string ⟨#[97, 98, 13, 10]⟩, .int .i64 8] (by simp only [List.map_toArray, List.map_cons, List.map_nil]; rw [show (frQ b w.heap.size t).eval (.tmp 16) = t 16 from rfl, e5]; rfl) (hent1 _) (fun u y => ∃ s : ByteArray, u = .string s ∧ s.size ≤ 8 ∧ Cur y b sa sl sc ∧ Beside b x y) ((l1DrawText b sa sl sc ⟨#[97, 98, 13, 10]⟩ 8 (by decide) (by decide) (by omega) x hcur).mono fun e y ⟨s, h0, h1, h2, h3⟩ => ⟨_, h0, s, rfl, h1, h2, h3⟩) ?_
      rintro u y ⟨s, rfl, hs1, hc1, hb1⟩
      exact hK _ _ ⟨upd t 17 (.string s), rfl, hc1, hbes.trans hb1, Nat.le_trans hsz hb1.2.2.2.1, C.put hi (by omega) (fun j hj hne => dQ_inj (by omega) hj hne) (fun j u hj h => GQ.keep hb1.keep hbn j u hj h) ⟨s, rfl, hs1⟩⟩
    · have l4 := hdep { on := 4, ground := Ground.data } (by simp) rfl
      have l9 := hdep { on := 9, ground := Ground.data } (by simp) rfl
      have l11 := hdep { on := 11, ground := Ground.data } (by simp) rfl
      have l13 := hdep { on := 13, ground := Ground.data } (by simp) rfl
      obtain ⟨p, e8, hp⟩ : hasTxt (t 8) 10 := C.got hi (by omega) 4 (by omega) l4
      obtain ⟨q, e13, hq⟩ : hasTxt (t 13) 10 := C.got hi (by omega) 9 (by omega) l9
      obtain ⟨l, ho, hl⟩ : hasFl0 (w.heap.size + 1) x (t 15) := C.got hi (by omega) 11 (by omega) l11
      obtain ⟨s, e17, hs⟩ : hasTxt (t 17) 8 := C.got hi (by omega) 13 (by omega) l13
      obtain ⟨A5, cap5, e15, _⟩ := ho.form
      rw [e15] at ho
      have HK : Hid (K (frQ b w.heap.size (upd t 18 (.agg #[.string p, .string q, .slice A5 l.length cap5, .string s]))) x) := hK _ _ ⟨_, rfl, hcur, hbes, hsz, C.put hi (by omega) (fun j hj hne => dQ_inj (by omega) hj hne) (fun j u hj h => GQ.keep (Keep.refl b x) hbn j u hj h) ⟨⟨p, q, l, s⟩, .slice A5 l.length cap5, rfl, ho, by show p.size ≤ 10; omega, by show q.size ≤ 250; omega, hl, by show s.size ≤ 4100; omega⟩⟩
      unfold frQ
      go_simp
      have h2 := HK.out
      unfold frQ upd at h2
      simpa [e8, e13, e15, e17] using h2
    · have hba := (Below.refl x.heap.size x).alloc (Nat.le_refl _) (.cells #[.string ⟨#[]⟩, .string ⟨#[]⟩, .slice none 0 0, .string ⟨#[]⟩] 26)
      have HK : Hid (K (frQ b w.heap.size (upd t 3 (.pointer (some ⟨x.heap.size, 0, none⟩)))) (x.alloc (.cells #[.string ⟨#[]⟩, .string ⟨#[]⟩, .slice none 0 0, .string ⟨#[]⟩] 26))) := hK _ _ ⟨_, rfl, hcur.kept hba hxz, hbes.below hba, by simp; omega, C.put hi (by omega) (fun j hj hne => dQ_inj (by omega) hj hne) (fun j u hj h => GQ.keep (Keep.alloc b x _) hbn j u hj h) ⟨x.heap.size, rfl, heap_alloc_new x _, by omega, hsz⟩⟩
      unfold frQ
      go_simp
      exact HK.out
    · have ph : ∀ j, j < 16 → L j = true := fun j hj => by
        rcases (show j = 0 ∨ j = 1 ∨ j = 2 ∨ j = 3 ∨ j = 4 ∨ j = 5 ∨ j = 6 ∨ j = 7 ∨ j = 8 ∨ j = 9 ∨ j = 10 ∨ j = 11 ∨ j = 12 ∨ j = 13 ∨ j = 14 ∨ j = 15 by omega) with rfl | rfl | rfl | rfl | rfl | rfl | rfl | rfl | rfl | rfl | rfl | rfl | rfl | rfl | rfl | rfl <;> exact hdep { on := _, ground := Ground.phase } (by simp) rfl
      obtain ⟨r, u, e18, ho, hsm⟩ : hasQ (w.heap.size + 1) x (t 18) := C.got hi (Nat.le_refl _) 14 (by omega) (ph 14 (by omega))
      obtain ⟨g, e3, hT⟩ : hasBoxQ b w.heap.size x (t 3) := C.got hi (Nat.le_refl _) 15 (by omega) (ph 15 (by omega))
      obtain ⟨A5, cap5, rfl, _⟩ := ho.form
      have c0 : x.cell? ⟨g, 0, none⟩ = some (.string ⟨#[]⟩) := by rw [cell_of_row x g 0 _ _ _ hT.1]; rfl
      have c1 : x.cell? ⟨g, 1, none⟩ = some (.string ⟨#[]⟩) := by rw [cell_of_row x g 1 _ _ _ hT.1]; rfl
      have c2 : x.cell? ⟨g, 2, none⟩ = some (.slice none 0 0) := by rw [cell_of_row x g 2 _ _ _ hT.1]; rfl
      have c3 : x.cell? ⟨g, 3, none⟩ = some (.string ⟨#[]⟩) := by rw [cell_of_row x g 3 _ _ _ hT.1]; rfl
      have ff : ∀ k, x.frozen? ⟨g, k, none⟩ = false := fun k => frozen_of_row hT.1 k
      have hbs := ((((Below.refl (w.heap.size + 1) x).setCell (p := ⟨g, 0, none⟩) hT.2.2 (.string r.m)).setCell (p := ⟨g, 1, none⟩) hT.2.2 (.string r.t)).setCell (p := ⟨g, 2, none⟩) hT.2.2 (.slice A5 r.l.length cap5)).setCell (p := ⟨g, 3, none⟩) hT.2.2 (.string r.b)
      have h1 := heap_setCell_same x g 0 _ _ (.string r.m) hT.1
      have o1 := ho.besides (k := 0) hT.1 (by decide) (.string r.m)
      have h2 := heap_setCell_same _ g 1 _ _ (.string r.t) h1
      have o2 := o1.besides (k := 1) h1 (by decide) (.string r.t)
      have h3 := heap_setCell_same _ g 2 _ _ (.slice A5 r.l.length cap5) h2
      have o3 := o2.besides (k := 2) h2 (by decide) (.slice A5 r.l.length cap5)
      have h4 := heap_setCell_same _ g 3 _ _ (.string r.b) h3
      have o4 := o3.besides (k := 3) h3 (by decide) (.string r.b)
      have HK : Hid (K (frQ b w.heap.size t) ((((x.setCell ⟨g, 0, none⟩ (.string r.m)).setCell ⟨g, 1, none⟩ (.string r.t)).setCell ⟨g, 2, none⟩ (.slice A5 r.l.length cap5)).setCell ⟨g, 3, none⟩ (.string r.b))) := hK _ _ ⟨_, rfl, hcur.kept hbs (by omega), hbes.grow hbs (by simp), Nat.le_trans hsz hbs.size, CondG.last ph ⟨g, r, _, e3, ⟨h4, hT.2⟩, o4, hsm⟩⟩
      unfold rqV at e18
      clear h1 h2 h3 h4 o1 o2 o3 o4 hbs
      unfold frQ
      go_simp
      have h2 := HK.out
      unfold frQ at h2
      simpa [e3, e18] using h2
  case back =>
    intro i o ho
    have hlt : i < 17 := (Array.getElem?_eq_some_iff.1 ho).1
    rcases (show i = 0 ∨ i = 1 ∨ i = 2 ∨ i = 3 ∨ i = 4 ∨ i = 5 ∨ i = 6 ∨ i = 7 ∨ i = 8 ∨ i = 9 ∨ i = 10 ∨ i = 11 ∨ i = 12 ∨ i = 13 ∨ i = 14 ∨ i = 15 ∨ i = 16 by omega) with rfl | rfl | rfl | rfl | rfl | rfl | rfl | rfl | rfl | rfl | rfl | rfl | rfl | rfl | rfl | rfl | rfl
    all_goals
      obtain rfl := Option.some.inj ho
      intro e he _
      refine back_of ?_ e he
      kernel_rfl
  case done =>
    intro L a x hall hI
    obtain ⟨t, rfl, hcur, hbes, hsz, C⟩ := hI
    obtain ⟨g, r, u, e3, hT, ho, hsm⟩ := (C.en (hall 16 (by decide))).2
    clear C hall
    obtain ⟨A5, cap5, rfl, _⟩ := ho.form
    obtain ⟨s1, s2, s3, s4⟩ := hsm
    have r0 : x.heap[w.heap.size]? = some (.cells #[.string ⟨#[]⟩, .string ⟨#[]⟩, .slice none 0 0, .string ⟨#[]⟩] 26) := hbes.at (by omega) (heap_alloc_new w _)
    have hbW : Beside b w x := ((Beside.refl b w).below hb0).trans hbes
    have hgb : g ≠ b := hT.2.1
    have hgn : w.heap.size < g := hT.2.2
    have t0 := hT.1
    clear hbes hT hc
    unfold frQ
    rw [e3]
    go_wp2_with fail
    refine (l1Once b sa sl sc 12 (by decide) (by decide) x hcur).mono ?_
    rintro e y1 ⟨tt, rfl, hc1, hb1⟩
    have r1 := hb1.at (by omega) r0
    have t1 := hb1.at hgb t0
    have o1 := ho.keep hb1.keep hbn
    have hbW1 := hbW.trans hb1
    clear r0 t0 ho hb1 hbW hcur
    cases tt with
    | false =>
      have T9 := t1
      have R9 := r1
      have O9 := o1
      clear t1 r1 o1
      obtain ⟨c0, c1, c2, c3, cf⟩ := box4 T9
      obtain ⟨d0, d1, d2, d3, df⟩ := box4 R9
      have hgn' : w.heap.size ≠ g := by omega
      have HO9 : Hid (OwnsF y1 (w.heap.size + 1) (.slice A5 r.l.length cap5) (r.l)) := O9
      have HB9 : Hid (Beside b w y1) := hbW1
      have HC9 : Hid (Cur y1 b sa sl sc) := hc1
      clear T9 R9 O9
      go_wp2
      refine bodyPost_ret (v := .agg #[.string r.m, .string r.t, .slice A5 r.l.length cap5, .string r.b]) (by simp [results, Tryz.results55, go_sem, d0, d1, d2, d3]) rfl ⟨⟨⟨r.m, r.t, r.l, r.b⟩, .slice A5 r.l.length cap5, rfl, ?_, ⟨s1, s2, s3.more, s4⟩⟩, ?_, ?_⟩
      · refine OwnsF.low (B := w.heap.size + 1) ?_ (by omega)
        repeat (refine OwnsF.farG ?_ (by omega) _)
        exact HO9.out
      · repeat (refine Cur.far ?_ (by omega) _)
        exact HC9.out
      · repeat (refine Beside.far ?_ (by omega) _)
        exact HB9.out
    | true =>
      go_wp2_with fail
      refine (l1Below b sa sl sc 4 (by decide) (by decide) y1 hc1).mono ?_
      rintro e y2 ⟨z, rfl, hz0, hz1, hc2, hb2⟩
      have r2 := hb2.at (by omega) r1
      have t2 := hb2.at hgb t1
      have o2 := o1.keep hb2.keep hbn
      have hbW2 := hbW1.trans hb2
      have hy2 : b < y2.heap.size := hc2.2.2.1
      clear r1 t1 o1 hb2 hbW1 hc1
      rcases (show z = 0 ∨ z = 1 ∨ z = 2 ∨ z = 3 by omega) with rfl | rfl | rfl | rfl
      · have hba := (Below.refl y2.heap.size y2).alloc (Nat.le_refl _) (.cells tabQ2 9)
        have ta := heap_alloc_new y2 (.cells tabQ2 9)
        go_wp2_with fail
        refine (l1Below b sa sl sc 3 (by decide) (by decide) (y2.alloc (.cells tabQ2 9)) (hc2.kept hba hy2)).mono ?_
        rintro e y3 ⟨z, rfl, hw0, hw1, hc3, hb3⟩
        obtain ⟨k, rfl⟩ : ∃ k : Nat, z = k := ⟨z.toNat, by omega⟩
        have r3 := hb3.at (by omega) (below_block r2 hba)
        have t3 := hb3.at hgb (below_block t2 hba)
        have o3 := (o2.alloc (.cells tabQ2 9)).keep hb3.keep hbn
        have ta3 := hb3.at (by omega) ta
        have hbW3 := (hbW2.below hba).trans hb3
        obtain ⟨s, hs, hss⟩ := tabQ2_at k (by omega)
        have cs : y3.cell? ⟨y2.heap.size, k, none⟩ = some (.string s) := by rw [cell_of_row y3 _ k _ _ _ ta3]; exact hs
        obtain ⟨b0, b1, b2, b3, bf⟩ := box4 t3
        have T9 := heap_setCell_same y3 g 0 _ _ (.string s) t3
        have R9 : (y3.setCell ⟨g, 0, none⟩ (.string s)).heap[w.heap.size]? = some (.cells #[.string ⟨#[]⟩, .string ⟨#[]⟩, .slice none 0 0, .string ⟨#[]⟩] 26) := by rw [heap_setCell_other y3 ⟨g, 0, none⟩ w.heap.size _ (by show w.heap.size ≠ g; omega)]; exact r3
        have O9 := o3.besides (k := 0) t3 (by decide) (.string s)
        have hgn3 : y2.heap.size ≠ g := fun e => by rw [← e] at t2; have := (Array.getElem?_eq_some_iff.1 t2).1; omega
        clear ta ta3 r2 t2 r3 t3 o2 o3 hb3 hba hs hbW2 hc2
        obtain ⟨c0, c1, c2, c3, cf⟩ := box4 T9
        obtain ⟨d0, d1, d2, d3, df⟩ := box4 R9
        have hgn' : w.heap.size ≠ g := by omega
        have HO9 : Hid (OwnsF (y3.setCell ⟨g, 0, none⟩ (.string s)) (w.heap.size + 1) (.slice A5 r.l.length cap5) (r.l)) := O9
        have HB9 : Hid (Beside b w y3) := hbW3
        have HC9 : Hid (Cur y3 b sa sl sc) := hc3
        clear T9 R9 O9
        go_wp2
        refine bodyPost_ret (v := .agg #[.string s, .string r.t, .slice A5 r.l.length cap5, .string r.b]) (by simp [results, Tryz.results55, go_sem, d0, d1, d2, d3]) rfl ⟨⟨⟨s, r.t, r.l, r.b⟩, .slice A5 r.l.length cap5, rfl, ?_, ⟨hss, s2, s3.more, s4⟩⟩, ?_, ?_⟩
        · refine OwnsF.low (B := w.heap.size + 1) ?_ (by omega)
          repeat (refine OwnsF.farG ?_ (by omega) _)
          exact HO9.out
        · repeat (refine Cur.far ?_ (by omega) _)
          exact HC9.out
        · repeat (refine Beside.far ?_ (by omega) _)
          exact HB9.out
      · obtain ⟨m1, hrun1, hbm1, hob1⟩ := make_own5 y2.drew 201 (by omega)
        rw [show ((201 : Nat) : Int) = 201 from rfl] at hrun1
        have hcv1 : (convert 22 9 (.slice (some ⟨y2.heap.size, 0, none⟩) 201 201)).run Tryz.prog m1 = .ok (.string ⟨(List.replicate 201 (0 : UInt8)).toArray⟩) m1 := hob1.text
        have hrun1' : (Instr.makeSlice 22 (.int .i64 201) (.int .i64 201)).run Tryz.prog y2.drew = .ok (.slice (some ⟨y2.heap.size, 0, none⟩) 201 201) m1 := hrun1
        clear hrun1
        have hz201 : (⟨(List.replicate 201 (0 : UInt8)).toArray⟩ : ByteArray).size ≤ 250 := by show (List.replicate 201 (0 : UInt8)).toArray.size ≤ 250; rw [List.size_toArray, List.length_replicate]; omega
        have gne := own_ne o2 t2 (by decide)
        have hgz : g < y2.heap.size := (Array.getElem?_eq_some_iff.1 t2).1
        have hnz : w.heap.size < y2.heap.size := (Array.getElem?_eq_some_iff.1 r2).1
        have hbm1' : Below y2.heap.size y2 m1 := ⟨hbm1.os, hbm1.tape, hbm1.output, hbm1.size, hbm1.block⟩
        have t1' := below_block t2 hbm1'
        have r1' := below_block r2 hbm1'
        have HO2 : Hid (OwnsF y2 (w.heap.size + 1) (.slice A5 r.l.length cap5) r.l) := o2
        have HO1 : Hid (OwnsF m1 (w.heap.size + 1) (.slice A5 r.l.length cap5) r.l) := o2.kept hbm1'
        have HT2 : Hid _ := t2
        have HR2 : Hid _ := r2
        have HT1 : Hid _ := t1'
        have HR1 : Hid _ := r1'
        have HOB : Hid (OwnsB m1 y2.heap.size (.slice (some ⟨y2.heap.size, 0, none⟩) 201 201) (List.replicate 201 0)) := hob1
        have HC2 : Hid (Cur y2.drew b sa sl sc) := hc2
        have HC1 : Hid (Cur m1 b sa sl sc) := hc2.kept hbm1' hy2
        have HW2 : Hid (Beside b w y2) := hbW2
        have HW1 : Hid (Beside b w m1) := hbW2.below hbm1'
        have HMS : Hid (y2.heap.size < m1.heap.size) := by
          have := hob1
          rcases this.2 with ⟨h0, _⟩ | ⟨g', cap, cur, hv, hbg, hg', _⟩
          · cases h0
          · injection hv with e _ _; injection e with e; injection e with e _ _; rw [← e] at hg'; exact (Array.getElem?_eq_some_iff.1 hg').1
        generalize hZ : (⟨(List.replicate 201 (0 : UInt8)).toArray⟩ : ByteArray) = Z at hcv1 hz201
        have HMS' := HMS.out
        clear t2 r2 t1' r1' o2 hob1 hc2 hbW2 hbm1 hbm1'
        go_wp2
        go_region_with (first
          | (go_at_call 64; go_loud (first
            | (refine (l1Below b sa sl sc 4 (by decide) (by decide) _ HC2.out).mono ?_; rintro e y3 ⟨k', rfl, hk0, hk1, hc3, hb3⟩; obtain ⟨k, rfl⟩ : ∃ k : Nat, k' = k := ⟨k'.toNat, by omega⟩; obtain ⟨m3, hrun3, hbm3, hob3⟩ := make_own5 y3 201 (by omega); rw [show ((201 : Nat) : Int) = 201 from rfl] at hrun3; have hcv3 := hob3.text; rw [hZ] at hcv3; obtain ⟨S, hS1, hS2, hS3⟩ := pickZ m3 k Z hz201 (by omega); have T3 := below_block ((show Beside b y2 y3 from hb3).at hgb HT2.out) hbm3; have R3 := below_block ((show Beside b y2 y3 from hb3).at (by omega) HR2.out) hbm3; have O3 := (HO2.out.keep (show Beside b y2 y3 from hb3).keep hbn).kept hbm3; have C3 := hc3.kept hbm3 hc3.2.2.1; have W3 := (HW2.out.trans (show Beside b y2 y3 from hb3)).below hbm3; obtain ⟨c0, c1, c2, c3, cf⟩ := box4 T3; obtain ⟨d0, d1, d2, d3, df⟩ := box4 R3; have hg3 : g < m3.heap.size := (Array.getElem?_eq_some_iff.1 T3).1; have hn3 : w.heap.size < m3.heap.size := (Array.getElem?_eq_some_iff.1 R3).1; have HOY : Hid (OwnsF m3 (w.heap.size + 1) (.slice A5 r.l.length cap5) r.l) := O3; have HCY : Hid (Cur m3 b sa sl sc) := C3; have HBY : Hid (Beside b w m3) := W3; clear T3 R3 O3 C3 W3 hb3 hbm3 hob3 hc3)
            | (refine (l1Below b sa sl sc 4 (by decide) (by decide) _ (HC1.out.more _)).mono ?_; rintro e y3 ⟨k', rfl, hk0, hk1, hc3, hb3⟩; obtain ⟨k, rfl⟩ : ∃ k : Nat, k' = k := ⟨k'.toNat, by omega⟩; obtain ⟨S, hS1', hS2, hS3⟩ := pickZ m1 k Z hz201 (by omega); have hS1 := besideCell hb3 (by omega) hS1'; have alm := (Below.refl _ m1).alloc (Nat.le_refl _) (.cells #[.string ⟨#[]⟩, .string ⟨#[47, 97, 32, 98]⟩, .string ⟨#[47, 127]⟩, .string Z] 9); have T3 := hb3.at hgb (below_block HT1.out alm); have R3 := hb3.at (by omega) (below_block HR1.out alm); have O3 := (HO1.out.alloc (.cells #[.string ⟨#[]⟩, .string ⟨#[47, 97, 32, 98]⟩, .string ⟨#[47, 127]⟩, .string Z] 9)).keep hb3.keep hbn; have W3 := (HW1.out.below alm).trans hb3; obtain ⟨c0, c1, c2, c3, cf⟩ := box4 T3; obtain ⟨d0, d1, d2, d3, df⟩ := box4 R3; have hg3 : g < y3.heap.size := (Array.getElem?_eq_some_iff.1 T3).1; have hn3 : w.heap.size < y3.heap.size := (Array.getElem?_eq_some_iff.1 R3).1; have hgm : g ≠ m1.heap.size := (by omega); have HOY : Hid (OwnsF y3 (w.heap.size + 1) (.slice A5 r.l.length cap5) r.l) := O3; have HCY : Hid (Cur y3 b sa sl sc) := hc3; have HBY : Hid (Beside b w y3) := W3; clear T3 R3 O3 W3 hb3 hc3 hS1' alm)
            | (refine (l1Below b sa sl sc 4 (by decide) (by decide) _ HC1.out).mono ?_; rintro e y3 ⟨k', rfl, hk0, hk1, hc3, hb3⟩; obtain ⟨k, rfl⟩ : ∃ k : Nat, k' = k := ⟨k'.toNat, by omega⟩; have hcv3 : (convert 22 9 (.slice (some ⟨y2.heap.size, 0, none⟩) 201 201)).run Tryz.prog y3 = .ok (.string ⟨(List.replicate 201 (0 : UInt8)).toArray⟩) y3 := (HOB.out.beside hb3 (by omega)).text; rw [hZ] at hcv3; obtain ⟨S, hS1, hS2, hS3⟩ := pickZ y3 k Z hz201 (by omega); have T3 := hb3.at hgb HT1.out; have R3 := hb3.at (by omega) HR1.out; have O3 := HO1.out.keep hb3.keep hbn; have W3 := HW1.out.trans hb3; obtain ⟨c0, c1, c2, c3, cf⟩ := box4 T3; obtain ⟨d0, d1, d2, d3, df⟩ := box4 R3; have hg3 : g < y3.heap.size := (Array.getElem?_eq_some_iff.1 T3).1; have hn3 : w.heap.size < y3.heap.size := (Array.getElem?_eq_some_iff.1 R3).1; have HOY : Hid (OwnsF y3 (w.heap.size + 1) (.slice A5 r.l.length cap5) r.l) := O3; have HCY : Hid (Cur y3 b sa sl sc) := hc3; have HBY : Hid (Beside b w y3) := W3; clear T3 R3 O3 W3 hb3 hc3))))
        all_goals
          go_wp2
          refine bodyPost_ret (v := .agg #[.string r.m, .string S, .slice A5 r.l.length cap5, .string r.b]) (by simp [results, Tryz.results55, go_sem, d0, d1, d2, d3, hn3]) rfl ⟨⟨⟨r.m, S, r.l, r.b⟩, .slice A5 r.l.length cap5, rfl, ?_, ⟨s1, hS3, s3.more, s4⟩⟩, ?_, ?_⟩
          · refine OwnsF.low (B := w.heap.size + 1) ?_ (by omega)
            repeat (first | (with_reducible refine OwnsF.farG ?_ ?_ _; rotate_left; omega) | (with_reducible refine OwnsF.butG ?_ gne _) | (with_reducible refine OwnsF.alloc ?_ _))
            exact HOY.out
          · repeat (first | (with_reducible refine Cur.far ?_ ?_ _; rotate_left; omega) | (with_reducible refine Cur.more ?_ _))
            exact HCY.out
          · repeat (first | (with_reducible refine Beside.far ?_ ?_ _; rotate_left; omega) | (with_reducible refine Beside.more ?_ _))
            exact HBY.out
      · have hlt2 := r2
        have hnz : w.heap.size < y2.heap.size := (Array.getElem?_eq_some_iff.1 r2).1
        obtain ⟨b0, b1, b2, b3, bf⟩ := box4 t2
        have HO2 : Hid (OwnsF y2 (w.heap.size + 1) (.slice A5 r.l.length cap5) r.l) := o2
        have HT2 : Hid _ := t2
        have HR2 : Hid _ := r2
        have hl5 : r.l.length ≤ 31 := s3.1
        clear t2 r2 o2 hlt2
        go_wp2_with (at_builtin; refine wpList_pushF _ rfl (.tmp 44) (.tmp 46) rfl (w.heap.size + 1) _ r.l clF rfl HO2.out rfl (by omega) (by omega) ?_; intro v3 y3 ho3 hg3; have hown3 : ∀ k, (Value.slice A5 r.l.length cap5).ownBlock = some k → w.heap.size + 1 ≤ k := OwnsF.from HO2.out; have gne : ∀ k, (Value.slice A5 r.l.length cap5).ownBlock = some k → k ≠ g := own_ne HO2.out HT2.out (by decide); have t3 : y3.heap[g]? = some (.cells #[.string r.m, .string r.t, .slice A5 r.l.length cap5, .string r.b] 26) := (by rw [hg3.block g (Array.getElem?_eq_some_iff.1 HT2.out).1 (fun e => gne g e.symm rfl)]; exact HT2.out); have r3 : y3.heap[w.heap.size]? = some (.cells #[.string ⟨#[]⟩, .string ⟨#[]⟩, .slice none 0 0, .string ⟨#[]⟩] 26) := (by rw [hg3.block w.heap.size (Array.getElem?_eq_some_iff.1 HR2.out).1 (fun e => by have := hown3 _ e.symm; omega)]; exact HR2.out); have hc3 : Cur y3 b sa sl sc := hc2.kept (grown_low hg3 (fun k hk => hown3 k hk) (by omega)) (by omega); have hbW3 : Beside b w y3 := hbW2.grown hg3 (fun k hk => by have := hown3 k hk; omega); have f3' := ho3.form; obtain ⟨A6, cap6, rfl, _⟩ := f3'; obtain ⟨n6, hn6⟩ : ∃ n, (r.l ++ [clF]).length = n := ⟨_, rfl⟩; rw [hn6] at ho3 ⊢; have b0' := (box4 t3).1; have b1' := (box4 t3).2.1; have b2' := (box4 t3).2.2.1; have b3' := (box4 t3).2.2.2.1; have bf' := (box4 t3).2.2.2.2; have T9 := heap_setCell_same y3 g 2 _ _ (.slice A6 n6 cap6) t3; have R9 : (y3.setCell ⟨g, 2, none⟩ (.slice A6 n6 cap6)).heap[w.heap.size]? = some (.cells #[.string ⟨#[]⟩, .string ⟨#[]⟩, .slice none 0 0, .string ⟨#[]⟩] 26) := (by rw [heap_setCell_other y3 ⟨g, 2, none⟩ w.heap.size _ (by show w.heap.size ≠ g; omega)]; exact r3); have O9 := ho3.besides (k := 2) t3 (by decide) (.slice A6 n6 cap6); obtain ⟨c0, c1, c2, c3, cf⟩ := box4 T9; obtain ⟨d0, d1, d2, d3, df⟩ := box4 R9; have hgn' : w.heap.size ≠ g := (by omega); have HO9 : Hid (OwnsF (y3.setCell ⟨g, 2, none⟩ (.slice A6 n6 cap6)) (w.heap.size + 1) (.slice A6 n6 cap6) (r.l ++ [clF])) := O9; clear T9 R9 O9 t3 r3 ho3 hg3; have HN6 : Hid (r.l.length ≤ 39) := (by show r.l.length ≤ 39; omega); clear hn6)
        refine bodyPost_ret (v := .agg #[.string r.m, .string r.t, .slice A6 n6 cap6, .string r.b]) (by simp [results, Tryz.results55, go_sem, d0, d1, d2, d3]) rfl ⟨⟨⟨r.m, r.t, r.l ++ [clF], r.b⟩, .slice A6 n6 cap6, rfl, ?_, ?_⟩, ?_, ?_⟩
        · refine OwnsF.low (B := w.heap.size + 1) ?_ (by omega)
          repeat (refine OwnsF.farG ?_ (by omega) _)
          exact HO9.out
        · exact ⟨s1, s2, small_more s3.more HN6.out clF (by decide), s4⟩
        · repeat (refine Cur.far ?_ (by omega) _)
          exact hc3
        · repeat (refine Beside.far ?_ (by omega) _)
          exact hbW3
      · go_wp2_with fail
        refine (l1Below b sa sl sc 2 (by decide) (by decide) y2 hc2).mono ?_
        rintro e y3 ⟨z, rfl, hw0, hw1, hc3, hb3⟩
        obtain ⟨k, rfl⟩ : ∃ k : Nat, z = k := ⟨z.toNat, by omega⟩
        obtain ⟨y4, hrun, hbm, s, hss, hcv⟩ := make_text5 y3 (4000 + k) (by omega)
        have hzz : ((4000 + k : Nat) : Int) = 4000 + (k : Int) := by omega
        rw [hzz] at hrun
        have r4 := below_block (hb3.at (by omega) r2) hbm
        have t4 := below_block (hb3.at hgb t2) hbm
        have o4 := (o2.keep hb3.keep hbn).kept hbm
        have hc4 := hc3.kept hbm hc3.2.2.1
        have hbW4 := (hbW2.trans hb3).below hbm
        obtain ⟨b0, b1, b2, b3, bf⟩ := box4 t4
        have T9 := heap_setCell_same y4 g 3 _ _ (.string s) t4
        have R9 : (y4.setCell ⟨g, 3, none⟩ (.string s)).heap[w.heap.size]? = some (.cells #[.string ⟨#[]⟩, .string ⟨#[]⟩, .slice none 0 0, .string ⟨#[]⟩] 26) := by rw [heap_setCell_other y4 ⟨g, 3, none⟩ w.heap.size _ (by show w.heap.size ≠ g; omega)]; exact r4
        have O9 := o4.besides (k := 3) t4 (by decide) (.string s)
        clear r2 t2 r4 t4 o2 o4 hb3 hbm hbW2 hc2 hc3
        obtain ⟨c0, c1, c2, c3, cf⟩ := box4 T9
        obtain ⟨d0, d1, d2, d3, df⟩ := box4 R9
        have hgn' : w.heap.size ≠ g := by omega
        have HO9 : Hid (OwnsF (y4.setCell ⟨g, 3, none⟩ (.string s)) (w.heap.size + 1) (.slice A5 r.l.length cap5) (r.l)) := O9
        have HB9 : Hid (Beside b w y4) := hbW4
        have HC9 : Hid (Cur y4 b sa sl sc) := hc4
        clear T9 R9 O9
        go_wp2
        refine bodyPost_ret (v := .agg #[.string r.m, .string r.t, .slice A5 r.l.length cap5, .string s]) (by simp [results, Tryz.results55, go_sem, d0, d1, d2, d3]) rfl ⟨⟨⟨r.m, r.t, r.l, s⟩, .slice A5 r.l.length cap5, rfl, ?_, ⟨s1, s2, s3.more, by show s.size ≤ 4100; omega⟩⟩, ?_, ?_⟩
        · refine OwnsF.low (B := w.heap.size + 1) ?_ (by omega)
          repeat (refine OwnsF.farG ?_ (by omega) _)
          exact HO9.out
        · repeat (refine Cur.far ?_ (by omega) _)
          exact HC9.out
        · repeat (refine Beside.far ?_ (by omega) _)
          exact HB9.out
end Go.Proofs.YteibacmohplblaaGreatDoor
namespace Go.Proofs.YteibacmohplblaaGreatDoor
open Go.RowKit Go.Sort
set_option linter.unusedVariables false

theorem box3 {w : World} {g : Nat} {c0 c1 c2 : Value} {T : TypeId} (h : w.heap[g]? = some (.cells #[c0, c1, c2] T (0, 0))) : w.cell? ⟨g, 0, none⟩ = some c0 ∧ w.cell? ⟨g, 1, none⟩ = some c1 ∧ w.cell? ⟨g, 2, none⟩ = some c2 ∧ ∀ k, w.frozen? ⟨g, k, none⟩ = false :=
  ⟨by rw [cell_of_row w g 0 _ _ _ h]; rfl, by rw [cell_of_row w g 1 _ _ _ h]; rfl, by rw [cell_of_row w g 2 _ _ _ h]; rfl, fun k => frozen_of_row h k⟩
def teF : Fl := (⟨#[116, 114, 97, 110, 115, 102, 101, 114, 45, 101, 110, 99, 111, 100, 105, 110, 103]⟩, ⟨#[99, 104, 117, 110, 107, 101, 100]⟩)
def BoxS (b n : Nat) (w : World) (g : Nat) (r : Rs) (u : Value) : Prop := w.heap[g]? = some (.cells #[.int .i64 r.s, u, .string r.b] 39 (0, 0)) ∧ g ≠ b ∧ n + 1 ≤ g
theorem BoxS.keep {b n : Nat} {w w' : World} {g : Nat} {r : Rs} {u : Value} (h : BoxS b n w g r u) (k : Keep b w w') : BoxS b n w' g r u := ⟨k g _ h.2.1 h.1, h.2⟩
def SmallS (r : Rs) : Prop := SmallG r.l ∧ r.b.size ≤ 4100
def SmallS0 (r : Rs) : Prop := SmallF r.l ∧ r.b.size ≤ 4100
def hasS (n : Nat) (w : World) (v : Value) : Prop := ∃ r u, v = rsV r u ∧ OwnsF w n u r.l ∧ SmallS0 r
def hasBoxS (b n : Nat) (w : World) (v : Value) : Prop := ∃ g, v = .pointer (some ⟨g, 0, none⟩) ∧ BoxS b n w g noS (.slice none 0 0)
def tabS0 : Array Value := #[.int .i64 200, .int .i64 204, .int .i64 304, .int .i64 404, .int .i64 599]
def tabS1 : Array Value := #[.int .i64 199, .int .i64 600, .int .i64 0, .int .i64 (-9223372036854775808)]
theorem tabS0_at (x : Nat) (h : x < 5) : ∃ s : Int, tabS0[x]? = some (.int .i64 s) := by
  rcases (show x = 0 ∨ x = 1 ∨ x = 2 ∨ x = 3 ∨ x = 4 by omega) with rfl | rfl | rfl | rfl | rfl <;> exact ⟨_, rfl⟩
theorem tabS1_at (x : Nat) (h : x < 4) : ∃ s : Int, tabS1[x]? = some (.int .i64 s) := by
  rcases (show x = 0 ∨ x = 1 ∨ x = 2 ∨ x = 3 by omega) with rfl | rfl | rfl | rfl <;> exact ⟨_, rfl⟩
def GS (b n : Nat) (w : World) (i : Nat) (v : Value) : Prop := match i with
  | 0 => hasTabT b w v 5 tabS0 2
  | 1 => v = .pointer (some ⟨b, 0, none⟩)
  | 2 => hasNum v 5
  | 3 => hasPtT b w v 5 tabS0 2
  | 4 => hasIt v
  | 5 => v = .pointer (some ⟨b, 0, none⟩)
  | 6 => hasFl0 (n + 1) w v
  | 7 => v = .pointer (some ⟨b, 0, none⟩)
  | 8 => hasTxt v 8
  | 9 => hasS (n + 1) w v
  | 10 => hasBoxS b n w v
  | _ => True
def dS (i : Nat) : Nat := if i = 10 then 3 else i + 4
theorem dS_inj {i j : Nat} (hi : i < 11) (hj : j < 11) (h : j ≠ i) : dS j ≠ dS i := by unfold dS; split <;> split <;> omega
theorem GS.keep {b n : Nat} {w w' : World} (hk : Keep b w w') (hb : b < n + 1) (j : Nat) (u : Value) (hj : j < 11) (h : GS b n w j u) : GS b n w' j u := by
  rcases (show j = 0 ∨ j = 1 ∨ j = 2 ∨ j = 3 ∨ j = 4 ∨ j = 5 ∨ j = 6 ∨ j = 7 ∨ j = 8 ∨ j = 9 ∨ j = 10 by omega) with rfl | rfl | rfl | rfl | rfl | rfl | rfl | rfl | rfl | rfl | rfl
  · exact hasTabT.keep h hk
  · exact h
  · exact h
  · exact hasPtT.keep h hk
  · exact h
  · exact h
  · obtain ⟨l, h1, h2⟩ := h; exact ⟨l, h1.keep hk hb, h2⟩
  · exact h
  · exact h
  · obtain ⟨r, u, h0, h1, h2⟩ := h; exact ⟨r, u, h0, h1.keep hk hb, h2⟩
  · obtain ⟨g, h0, h1⟩ := h; exact ⟨g, h0, h1.keep hk⟩
def frS (b n : Nat) (t : Nat → Value) : Act := { tmps := #[.pointer (some ⟨b, 0, none⟩), undef, .pointer (some ⟨n, 0, none⟩), t 3, t 4, t 5, t 6, t 7, t 8, t 9, t 10, t 11, t 12, t 13, undef, undef, undef, undef, undef, undef, undef, undef, undef, undef, undef, undef, undef, undef, undef, undef, undef, undef, undef, undef, undef, undef, undef, undef, undef, undef, undef, undef, undef, undef], defers := [] }
def FinS (b n : Nat) (t : Nat → Value) (w : World) : Prop := ∃ g r u, t 3 = .pointer (some ⟨g, 0, none⟩) ∧ BoxS b n w g r u ∧ OwnsF w (n + 1) u r.l ∧ SmallS0 r
def InvS (b n : Nat) (sa : Option Addr) (sl sc : Nat) (w0 : World) (L : Nat → Bool) (a : Act) (w : World) : Prop :=
  ∃ t, a = frS b n t ∧ Cur w b sa sl sc ∧ Beside b w0 w ∧ n + 1 ≤ w.heap.size ∧ CondG (GS b n) dS 11 (FinS b n) L t w

set_option maxRecDepth 100000 in
set_option maxHeartbeats 8000000 in
theorem l6DrawS (b : Nat) (sa : Option Addr) (sl sc : Nat) (w : World) (hc : Cur w b sa sl sc) :
    Calls Tryz.prog 82 #[.pointer (some ⟨b, 0, none⟩)] w fun e w' => (∃ r u, e = .returned (rsV r u) ∧ OwnsF w' w.heap.size u r.l ∧ SmallS r) ∧ Cur w' b sa sl sc ∧ Beside b w w' := by
  have hbz : b < w.heap.size := hc.2.2.1
  have hbn : b < w.heap.size + 1 := by omega
  have hent : ∀ args w, (callFunc 64 args).run Tryz.prog w = .ok (.enter 64 args) w := Go.Proofs.enters_of Tryz.func64 (by kernel_rfl) rfl
  have hent4 : ∀ args w, (callFunc 63 args).run Tryz.prog w = .ok (.enter 63 args) w := Go.Proofs.enters_of Tryz.func63 (by kernel_rfl) rfl
  have hent1 : ∀ args w, (callFunc 56 args).run Tryz.prog w = .ok (.enter 56 args) w := Go.Proofs.enters_of Tryz.func56 (by kernel_rfl) rfl
  have hb0 := (Below.refl w.heap.size w).alloc (Nat.le_refl _) (.cells #[.int .i64 0, .slice none 0 0, .string ⟨#[]⟩] 39)
  go_enter Tryz.func82, Tryz.ntmps82
  go_wp2
  refine region_inv mixed (InvS b w.heap.size sa sl sc (w.alloc (.cells #[.int .i64 0, .slice none 0 0, .string ⟨#[]⟩] 39))) ?h0 ?step ?back ?done
  case h0 =>
    refine ⟨fun _ => undef, rfl, ?_, ?_, ?_, CondG.none⟩
    · exact hc.kept (show Below w.heap.size w (w.alloc (.cells #[.int .i64 0, .slice none 0 0, .string ⟨#[]⟩] 39)).drew from ⟨hb0.os, hb0.tape, hb0.output, hb0.size, hb0.block⟩) hbz
    · exact ⟨rfl, rfl, rfl, Nat.le_refl _, fun _ _ _ => rfl⟩
    · show w.heap.size + 1 ≤ (w.alloc (.cells #[.int .i64 0, .slice none 0 0, .string ⟨#[]⟩] 39)).heap.size
      simp
  case step =>
    intro L a x i o K ho hi hdep hI hK
    obtain ⟨t, rfl, hcur, hbes, hsz, C⟩ := hI
    have hxz : b < x.heap.size := hcur.2.2.1
    have hlt : i < 12 := (Array.getElem?_eq_some_iff.1 ho).1
    rcases (show i = 0 ∨ i = 1 ∨ i = 2 ∨ i = 3 ∨ i = 4 ∨ i = 5 ∨ i = 6 ∨ i = 7 ∨ i = 8 ∨ i = 9 ∨ i = 10 ∨ i = 11 by omega) with rfl | rfl | rfl | rfl | rfl | rfl | rfl | rfl | rfl | rfl | rfl | rfl
    all_goals obtain rfl := Option.some.inj ho
    · have hba := (Below.refl x.heap.size x).alloc (Nat.le_refl _) (.cells tabS0 2)
      have HK : Hid (K (frS b w.heap.size (upd t 4 (.slice (some ⟨x.heap.size, 0, none⟩) 5 5))) (x.alloc (.cells tabS0 2))) := hK _ _ ⟨_, rfl, hcur.kept hba hxz, hbes.below hba, by simp; omega, C.put hi (by omega) (fun j hj hne => dS_inj (by omega) hj hne) (fun j u hj h => GS.keep (Keep.alloc b x _) hbn j u hj h) ⟨x.heap.size, rfl, heap_alloc_new x _, by omega⟩⟩
      unfold frS
      go_simp
      exact HK.out
    · have HK : Hid (K (frS b w.heap.size (upd t 5 (.pointer (some ⟨b, 0, none⟩)))) x) := hK _ _ ⟨_, rfl, hcur, hbes, hsz, C.put hi (by omega) (fun j hj hne => dS_inj (by omega) hj hne) (fun j u hj h => GS.keep (Keep.refl b x) hbn j u hj h) rfl⟩
      unfold frS
      go_simp
      exact HK.out
    · have l1 := hdep { on := 1, ground := Ground.data } (by simp) rfl
      have e5 : t 5 = .pointer (some ⟨b, 0, none⟩) := C.got hi (by omega) 1 (by omega) l1
      refine step_call2 rfl 64 (.tmp 5) (.const (.int .i64 5)) _ rfl (.pointer (some ⟨b, 0, none⟩)) (.int .i64 5) e5 rfl (hent _) (fun u y => ∃ z : Int, u = .int .i64 z ∧ 0 ≤ z ∧ z < 5 ∧ Cur y b sa sl sc ∧ Beside b x y) ((l1Below b sa sl sc 5 (by decide) (by decide) x hcur).mono fun e y ⟨z, h0, h1, h2, h3, h4⟩ => ⟨_, h0, z, rfl, h1, h2, h3, h4⟩) ?_
      rintro u y ⟨z, rfl, hz0, hz1, hc1, hb1⟩
      exact hK _ _ ⟨upd t 6 (.int .i64 z), rfl, hc1, hbes.trans hb1, Nat.le_trans hsz hb1.2.2.2.1, C.put hi (by omega) (fun j hj hne => dS_inj (by omega) hj hne) (fun j u hj h => GS.keep hb1.keep hbn j u hj h) ⟨z.toNat, by rw [Int.toNat_of_nonneg hz0], by omega⟩⟩
    · have l0 := hdep { on := 0, ground := Ground.data } (by simp) rfl
      have l2 := hdep { on := 2, ground := Ground.data } (by simp) rfl
      obtain ⟨g, e4, hT⟩ : hasTabT b x (t 4) 5 tabS0 2 := C.got hi (by omega) 0 (by omega) l0
      obtain ⟨z, e6, hz⟩ : hasNum (t 6) 5 := C.got hi (by omega) 2 (by omega) l2
      have hzI : (z : Int) < 5 := by omega
      have HK : Hid (K (frS b w.heap.size (upd t 7 (.pointer (some ⟨g, z, none⟩)))) x) := hK _ _ ⟨_, rfl, hcur, hbes, hsz, C.put hi (by omega) (fun j hj hne => dS_inj (by omega) hj hne) (fun j u hj h => GS.keep (Keep.refl b x) hbn j u hj h) ⟨g, z, rfl, hz, hT⟩⟩
      unfold frS
      go_simp
      have h2 := HK.out
      unfold frS upd at h2
      simpa [e4, e6] using h2
    · have l3 := hdep { on := 3, ground := Ground.data } (by simp) rfl
      obtain ⟨g, z, e7, hz, hT⟩ : hasPtT b x (t 7) 5 tabS0 2 := C.got hi (by omega) 3 (by omega) l3
      obtain ⟨s, hs⟩ := tabS0_at z hz
      have c0 : x.cell? ⟨g, z, none⟩ = some (.int .i64 s) := by rw [cell_of_row x g z _ _ _ hT.1]; exact hs
      have HK : Hid (K (frS b w.heap.size (upd t 8 (.int .i64 s))) x) := hK _ _ ⟨_, rfl, hcur, hbes, hsz, C.put hi (by omega) (fun j hj hne => dS_inj (by omega) hj hne) (fun j u hj h => GS.keep (Keep.refl b x) hbn j u hj h) ⟨s, rfl⟩⟩
      unfold frS
      go_simp
      have h2 := HK.out
      unfold frS upd at h2
      simpa [e7] using h2
    · have HK : Hid (K (frS b w.heap.size (upd t 9 (.pointer (some ⟨b, 0, none⟩)))) x) := hK _ _ ⟨_, rfl, hcur, hbes, hsz, C.put hi (by omega) (fun j hj hne => dS_inj (by omega) hj hne) (fun j u hj h => GS.keep (Keep.refl b x) hbn j u hj h) rfl⟩
      unfold frS
      go_simp
      exact HK.out
    · have l1 := hdep { on := 5, ground := Ground.data } (by simp) rfl
      have e5 : t 9 = .pointer (some ⟨b, 0, none⟩) := C.got hi (by omega) 5 (by omega) l1
      refine step_call1 rfl 63 (.tmp 9) _ rfl (.pointer (some ⟨b, 0, none⟩)) e5 (hent4 _) (fun u y => ∃ l, OwnsF y x.heap.size u l ∧ SmallF l ∧ Cur y b sa sl sc ∧ Beside b x y) ((l4Draw b sa sl sc x hcur).mono fun e y ⟨⟨u, l, h0, h1, h2⟩, h3, h4⟩ => ⟨u, h0, l, h1, h2, h3, h4⟩) ?_
      rintro u y ⟨l, ho1, hs1, hc1, hb1⟩
      exact hK _ _ ⟨upd t 10 u, rfl, hc1, hbes.trans hb1, Nat.le_trans hsz hb1.2.2.2.1, C.put hi (by omega) (fun j hj hne => dS_inj (by omega) hj hne) (fun j u hj h => GS.keep hb1.keep hbn j u hj h) ⟨l, ho1.low hsz, hs1⟩⟩
    · have HK : Hid (K (frS b w.heap.size (upd t 11 (.pointer (some ⟨b, 0, none⟩)))) x) := hK _ _ ⟨_, rfl, hcur, hbes, hsz, C.put hi (by omega) (fun j hj hne => dS_inj (by omega) hj hne) (fun j u hj h => GS.keep (Keep.refl b x) hbn j u hj h) rfl⟩
      unfold frS
      go_simp
      exact HK.out
    · have l1 := hdep { on := 7, ground := Ground.data } (by simp) rfl
      have e5 : t 11 = .pointer (some ⟨b, 0, none⟩) := C.got hi (by omega) 7 (by omega) l1
      refine step_call rfl 56 #[.tmp 11, .const (.string ⟨#[97, 98, 13, 10]⟩), .const (.int .i64 8)] _ rfl #[.pointer (some ⟨b, 0, none⟩), .string ⟨#[97, 98, 13, 10]⟩, .int .i64 8] (by simp only [List.map_toArray, List.map_cons, List.map_nil]; rw [show (frS b w.heap.size t).eval (.tmp 11) = t 11 from rfl, e5]; rfl) (hent1 _) (fun u y => ∃ s : ByteArray, u = .string s ∧ s.size ≤ 8 ∧ Cur y b sa sl sc ∧ Beside b x y) ((l1DrawText b sa sl sc ⟨#[97, 98, 13, 10]⟩ 8 (by decide) (by decide) (by omega) x hcur).mono fun e y ⟨s, h0, h1, h2, h3⟩ => ⟨_, h0, s, rfl, h1, h2, h3⟩) ?_
      rintro u y ⟨s, rfl, hs1, hc1, hb1⟩
      exact hK _ _ ⟨upd t 12 (.string s), rfl, hc1, hbes.trans hb1, Nat.le_trans hsz hb1.2.2.2.1, C.put hi (by omega) (fun j hj hne => dS_inj (by omega) hj hne) (fun j u hj h => GS.keep hb1.keep hbn j u hj h) ⟨s, rfl, hs1⟩⟩
    · have l4 := hdep { on := 4, ground := Ground.data } (by simp) rfl
      have l6 := hdep { on := 6, ground := Ground.data } (by simp) rfl
      have l8 := hdep { on := 8, ground := Ground.data } (by simp) rfl
      obtain ⟨p, e8⟩ : hasIt (t 8) := C.got hi (by omega) 4 (by omega) l4
      obtain ⟨l, ho, hl⟩ : hasFl0 (w.heap.size + 1) x (t 10) := C.got hi (by omega) 6 (by omega) l6
      obtain ⟨s, e12, hs⟩ : hasTxt (t 12) 8 := C.got hi (by omega) 8 (by omega) l8
      obtain ⟨A5, cap5, e10, _⟩ := ho.form
      rw [e10] at ho
      have HK : Hid (K (frS b w.heap.size (upd t 13 (.agg #[.int .i64 p, .slice A5 l.length cap5, .string s]))) x) := hK _ _ ⟨_, rfl, hcur, hbes, hsz, C.put hi (by omega) (fun j hj hne => dS_inj (by omega) hj hne) (fun j u hj h => GS.keep (Keep.refl b x) hbn j u hj h) ⟨⟨p, l, s⟩, .slice A5 l.length cap5, rfl, ho, hl, by show s.size ≤ 4100; omega⟩⟩
      unfold frS
      go_simp
      have h2 := HK.out
      unfold frS upd at h2
      simpa [e8, e10, e12] using h2
    · have hba := (Below.refl x.heap.size x).alloc (Nat.le_refl _) (.cells #[.int .i64 0, .slice none 0 0, .string ⟨#[]⟩] 39)
      have HK : Hid (K (frS b w.heap.size (upd t 3 (.pointer (some ⟨x.heap.size, 0, none⟩)))) (x.alloc (.cells #[.int .i64 0, .slice none 0 0, .string ⟨#[]⟩] 39))) := hK _ _ ⟨_, rfl, hcur.kept hba hxz, hbes.below hba, by simp; omega, C.put hi (by omega) (fun j hj hne => dS_inj (by omega) hj hne) (fun j u hj h => GS.keep (Keep.alloc b x _) hbn j u hj h) ⟨x.heap.size, rfl, heap_alloc_new x _, by omega, hsz⟩⟩
      unfold frS
      go_simp
      exact HK.out
    · have ph : ∀ j, j < 11 → L j = true := fun j hj => by
        rcases (show j = 0 ∨ j = 1 ∨ j = 2 ∨ j = 3 ∨ j = 4 ∨ j = 5 ∨ j = 6 ∨ j = 7 ∨ j = 8 ∨ j = 9 ∨ j = 10 by omega) with rfl | rfl | rfl | rfl | rfl | rfl | rfl | rfl | rfl | rfl | rfl <;> exact hdep { on := _, ground := Ground.phase } (by simp) rfl
      obtain ⟨r, u, e13, ho, hsm⟩ : hasS (w.heap.size + 1) x (t 13) := C.got hi (Nat.le_refl _) 9 (by omega) (ph 9 (by omega))
      obtain ⟨g, e3, hT⟩ : hasBoxS b w.heap.size x (t 3) := C.got hi (Nat.le_refl _) 10 (by omega) (ph 10 (by omega))
      obtain ⟨A5, cap5, rfl, _⟩ := ho.form
      obtain ⟨c0, c1, c2, ff⟩ := box3 hT.1
      have hbs := (((Below.refl (w.heap.size + 1) x).setCell (p := ⟨g, 0, none⟩) hT.2.2 (.int .i64 r.s)).setCell (p := ⟨g, 1, none⟩) hT.2.2 (.slice A5 r.l.length cap5)).setCell (p := ⟨g, 2, none⟩) hT.2.2 (.string r.b)
      have h1 := heap_setCell_same x g 0 _ _ (.int .i64 r.s) hT.1
      have o1 := ho.besides (k := 0) hT.1 (by decide) (.int .i64 r.s)
      have h2 := heap_setCell_same _ g 1 _ _ (.slice A5 r.l.length cap5) h1
      have o2 := o1.besides (k := 1) h1 (by decide) (.slice A5 r.l.length cap5)
      have h3 := heap_setCell_same _ g 2 _ _ (.string r.b) h2
      have o3 := o2.besides (k := 2) h2 (by decide) (.string r.b)
      have HK : Hid (K (frS b w.heap.size t) (((x.setCell ⟨g, 0, none⟩ (.int .i64 r.s)).setCell ⟨g, 1, none⟩ (.slice A5 r.l.length cap5)).setCell ⟨g, 2, none⟩ (.string r.b))) := hK _ _ ⟨_, rfl, hcur.kept hbs (by omega), hbes.grow hbs (by simp), Nat.le_trans hsz hbs.size, CondG.last ph ⟨g, r, _, e3, ⟨h3, hT.2⟩, o3, hsm⟩⟩
      unfold rsV at e13
      clear h1 h2 h3 o1 o2 o3 hbs
      unfold frS
      go_simp
      have h2 := HK.out
      unfold frS at h2
      simpa [e3, e13] using h2
  case back =>
    intro i o ho
    have hlt : i < 12 := (Array.getElem?_eq_some_iff.1 ho).1
    rcases (show i = 0 ∨ i = 1 ∨ i = 2 ∨ i = 3 ∨ i = 4 ∨ i = 5 ∨ i = 6 ∨ i = 7 ∨ i = 8 ∨ i = 9 ∨ i = 10 ∨ i = 11 by omega) with rfl | rfl | rfl | rfl | rfl | rfl | rfl | rfl | rfl | rfl | rfl | rfl
    all_goals
      obtain rfl := Option.some.inj ho
      intro e he _
      refine back_of ?_ e he
      kernel_rfl
  case done =>
    intro L a x hall hI
    obtain ⟨t, rfl, hcur, hbes, hsz, C⟩ := hI
    obtain ⟨g, r, u, e3, hT, ho, hsm⟩ := (C.en (hall 11 (by decide))).2
    clear C hall
    obtain ⟨A5, cap5, rfl, _⟩ := ho.form
    obtain ⟨s3, s4⟩ := hsm
    have rX : x.heap[w.heap.size]? = some (.cells #[.int .i64 0, .slice none 0 0, .string ⟨#[]⟩] 39) := hbes.at (by omega) (heap_alloc_new w _)
    have hbW : Beside b w x := ((Beside.refl b w).below hb0).trans hbes
    have hgb : g ≠ b := hT.2.1
    have hgn : w.heap.size < g := hT.2.2
    have tX := hT.1
    have gne := own_ne ho tX (by decide)
    clear hbes hT hc
    unfold frS
    rw [e3]
    obtain ⟨q0, q1, q2, qf⟩ := box3 tX
    go_wp2_with fail
    refine (specBare r.s x).mono ?_
    rintro e y1 ⟨rfl, rfl⟩
    cases hbr : bareB r.s with
    | false =>
      have tY := tX
      have rY := rX
      have oY := ho
      have cY := hcur
      have wY := hbW
      clear tX rX ho hcur hbW hbr q0 q1 q2 qf
      go_wp2_with fail
      refine (l1Once b sa sl sc 12 (by decide) (by decide) x cY).mono ?_
      rintro e y5 ⟨t5, rfl, hc5, hb5⟩
      have r5 := hb5.at (by omega) rY
      have t5' := hb5.at hgb tY
      have o5 := oY.keep hb5.keep hbn
      have w5 := wY.trans hb5
      clear rY tY oY hb5 wY cY
      cases t5 with
      | false =>
        have T9 := t5'
        have R9 := r5
        have HO9 : Hid (OwnsF y5 (w.heap.size + 1) (.slice A5 r.l.length cap5) r.l) := o5
        have HC9 : Hid (Cur y5 b sa sl sc) := hc5
        have HB9 : Hid (Beside b w y5) := w5
        clear t5' r5 o5 hc5 w5
        obtain ⟨c0, c1, c2, cf⟩ := box3 T9
        obtain ⟨d0, d1, d2, df⟩ := box3 R9
        have hgn' : w.heap.size ≠ g := by omega
        clear T9 R9
        go_wp2
        refine bodyPost_ret (v := .agg #[.int .i64 (r.s), .slice A5 r.l.length cap5, .string r.b]) (by simp [results, Tryz.results82, go_sem, d0, d1, d2]) rfl ⟨⟨⟨r.s, r.l, r.b⟩, .slice A5 r.l.length cap5, rfl, ?_, ⟨s3.more, s4⟩⟩, ?_, ?_⟩
        · refine OwnsF.low (B := w.heap.size + 1) ?_ (by omega)
          repeat (first | (with_reducible refine OwnsF.farG ?_ ?_ _; rotate_left; omega) | (with_reducible refine OwnsF.butG ?_ gne _) | (with_reducible refine OwnsF.alloc ?_ _))
          exact HO9.out
        · repeat (first | (with_reducible refine Cur.far ?_ ?_ _; rotate_left; omega) | (with_reducible refine Cur.more ?_ _))
          exact HC9.out
        · repeat (first | (with_reducible refine Beside.far ?_ ?_ _; rotate_left; omega) | (with_reducible refine Beside.more ?_ _))
          exact HB9.out
      | true =>
        go_wp2_with fail
        refine (l1Below b sa sl sc 2 (by decide) (by decide) y5 hc5).mono ?_
        rintro e y6 ⟨z, rfl, hz0, hz1, hc6, hb6⟩
        have r6 := hb6.at (by omega) r5
        have t6 := hb6.at hgb t5'
        have o6 := o5.keep hb6.keep hbn
        have w6 := w5.trans hb6
        have hy6 : b < y6.heap.size := hc6.2.2.1
        clear r5 t5' o5 hb6 w5 hc5
        rcases (show z = 0 ∨ z = 1 by omega) with rfl | rfl
        · have hba := (Below.refl y6.heap.size y6).alloc (Nat.le_refl _) (.cells tabS1 2)
          have ta := heap_alloc_new y6 (.cells tabS1 2)
          go_wp2_with fail
          refine (l1Below b sa sl sc 4 (by decide) (by decide) (y6.alloc (.cells tabS1 2)) (hc6.kept hba hy6)).mono ?_
          rintro e y7 ⟨z, rfl, hw0, hw1, hc7, hb7⟩
          obtain ⟨k, rfl⟩ : ∃ k : Nat, z = k := ⟨z.toNat, by omega⟩
          have r7 := hb7.at (by omega) (below_block r6 hba)
          have t7 := hb7.at hgb (below_block t6 hba)
          have o7 := (o6.alloc (.cells tabS1 2)).keep hb7.keep hbn
          have ta7 := hb7.at (by omega) ta
          have w7 := (w6.below hba).trans hb7
          obtain ⟨s, hs⟩ := tabS1_at k (by omega)
          have cs : y7.cell? ⟨y6.heap.size, k, none⟩ = some (.int .i64 s) := by rw [cell_of_row y7 _ k _ _ _ ta7]; exact hs
          obtain ⟨b0, b1, b2, bf⟩ := box3 t7
          have T9 := heap_setCell_same y7 g 0 _ _ (.int .i64 s) t7
          have R9 : (y7.setCell ⟨g, 0, none⟩ (.int .i64 s)).heap[w.heap.size]? = some (.cells #[.int .i64 0, .slice none 0 0, .string ⟨#[]⟩] 39) := by rw [heap_setCell_other y7 ⟨g, 0, none⟩ w.heap.size _ (by show w.heap.size ≠ g; omega)]; exact r7
          have gne := own_ne o7 t7 (by decide)
          have HO9 : Hid (OwnsF y7 (w.heap.size + 1) (.slice A5 r.l.length cap5) r.l) := o7
          have HC9 : Hid (Cur y7 b sa sl sc) := hc7
          have HB9 : Hid (Beside b w y7) := w7
          have hgn3 : y6.heap.size ≠ g := fun e => by rw [← e] at t6; have := (Array.getElem?_eq_some_iff.1 t6).1; omega
          clear ta ta7 r6 t6 r7 t7 o6 o7 hb7 hba hs w6 w7 hc6 hc7
          obtain ⟨c0, c1, c2, cf⟩ := box3 T9
          obtain ⟨d0, d1, d2, df⟩ := box3 R9
          have hgn' : w.heap.size ≠ g := by omega
          clear T9 R9
          go_wp2
          refine bodyPost_ret (v := .agg #[.int .i64 (s), .slice A5 r.l.length cap5, .string r.b]) (by simp [results, Tryz.results82, go_sem, d0, d1, d2]) rfl ⟨⟨⟨s, r.l, r.b⟩, .slice A5 r.l.length cap5, rfl, ?_, ⟨s3.more, s4⟩⟩, ?_, ?_⟩
          · refine OwnsF.low (B := w.heap.size + 1) ?_ (by omega)
            repeat (first | (with_reducible refine OwnsF.farG ?_ ?_ _; rotate_left; omega) | (with_reducible refine OwnsF.butG ?_ gne _) | (with_reducible refine OwnsF.alloc ?_ _))
            exact HO9.out
          · repeat (first | (with_reducible refine Cur.far ?_ ?_ _; rotate_left; omega) | (with_reducible refine Cur.more ?_ _))
            exact HC9.out
          · repeat (first | (with_reducible refine Beside.far ?_ ?_ _; rotate_left; omega) | (with_reducible refine Beside.more ?_ _))
            exact HB9.out
        · have hnz : w.heap.size < y6.heap.size := (Array.getElem?_eq_some_iff.1 r6).1
          obtain ⟨b0, b1, b2, bf⟩ := box3 t6
          have HO2 : Hid (OwnsF y6 (w.heap.size + 1) (.slice A5 r.l.length cap5) r.l) := o6
          have HT2 : Hid (y6.heap[g]? = some (.cells #[.int .i64 r.s, .slice A5 r.l.length cap5, .string r.b] 39)) := t6
          have HR2 : Hid (y6.heap[w.heap.size]? = some (.cells #[.int .i64 0, .slice none 0 0, .string ⟨#[]⟩] 39)) := r6
          have hl5 : r.l.length ≤ 31 := s3.1
          clear t6 r6 o6
          go_wp2_with (at_builtin; refine wpList_pushF _ rfl (.tmp 38) (.tmp 40) rfl (w.heap.size + 1) _ r.l teF rfl HO2.out rfl (by omega) (by omega) ?_; intro v3 y7 ho3 hg3; have hown3 : ∀ k, (Value.slice A5 r.l.length cap5).ownBlock = some k → w.heap.size + 1 ≤ k := OwnsF.from HO2.out; have gne0 : ∀ k, (Value.slice A5 r.l.length cap5).ownBlock = some k → k ≠ g := own_ne HO2.out HT2.out (by decide); have t7 : y7.heap[g]? = some (.cells #[.int .i64 r.s, .slice A5 r.l.length cap5, .string r.b] 39) := (by rw [hg3.block g (Array.getElem?_eq_some_iff.1 HT2.out).1 (fun e => gne0 g e.symm rfl)]; exact HT2.out); have r7 : y7.heap[w.heap.size]? = some (.cells #[.int .i64 0, .slice none 0 0, .string ⟨#[]⟩] 39) := (by rw [hg3.block w.heap.size (Array.getElem?_eq_some_iff.1 HR2.out).1 (fun e => by have := hown3 _ e.symm; omega)]; exact HR2.out); have HC9 : Hid (Cur y7 b sa sl sc) := hc6.kept (grown_low hg3 (fun k hk => hown3 k hk) (by omega)) (by omega); have HB9 : Hid (Beside b w y7) := w6.grown hg3 (fun k hk => by have := hown3 k hk; omega); have f3' := ho3.form; obtain ⟨A6, cap6, rfl, _⟩ := f3'; obtain ⟨n6, hn6⟩ : ∃ n, (r.l ++ [teF]).length = n := ⟨_, rfl⟩; rw [hn6] at ho3 ⊢; have b0' := (box3 t7).1; have b1' := (box3 t7).2.1; have b2' := (box3 t7).2.2.1; have bf' := (box3 t7).2.2.2; have T9 := heap_setCell_same y7 g 1 _ _ (.slice A6 n6 cap6) t7; have R9 : (y7.setCell ⟨g, 1, none⟩ (.slice A6 n6 cap6)).heap[w.heap.size]? = some (.cells #[.int .i64 0, .slice none 0 0, .string ⟨#[]⟩] 39) := (by rw [heap_setCell_other y7 ⟨g, 1, none⟩ w.heap.size _ (by show w.heap.size ≠ g; omega)]; exact r7); have gne := own_ne ho3 t7 (by decide); have HO9 : Hid (OwnsF y7 (w.heap.size + 1) (.slice A6 n6 cap6) (r.l ++ [teF])) := ho3; obtain ⟨c0, c1, c2, cf⟩ := box3 T9; obtain ⟨d0, d1, d2, df⟩ := box3 R9; have hgn' : w.heap.size ≠ g := (by omega); clear T9 R9 t7 r7 ho3 hg3; have HN6 : Hid (r.l.length ≤ 39) := (by show r.l.length ≤ 39; omega); clear hn6)
          refine bodyPost_ret (v := .agg #[.int .i64 r.s, .slice A6 n6 cap6, .string r.b]) (by simp [results, Tryz.results82, go_sem, d0, d1, d2]) rfl ⟨⟨⟨r.s, r.l ++ [teF], r.b⟩, .slice A6 n6 cap6, rfl, ?_, ⟨small_more s3.more HN6.out teF (by decide), s4⟩⟩, ?_, ?_⟩
          · refine OwnsF.low (B := w.heap.size + 1) ?_ (by omega)
            repeat (first | (with_reducible refine OwnsF.farG ?_ ?_ _; rotate_left; omega) | (with_reducible refine OwnsF.butG ?_ gne _) | (with_reducible refine OwnsF.alloc ?_ _))
            exact HO9.out
          · repeat (first | (with_reducible refine Cur.far ?_ ?_ _; rotate_left; omega) | (with_reducible refine Cur.more ?_ _))
            exact HC9.out
          · repeat (first | (with_reducible refine Beside.far ?_ ?_ _; rotate_left; omega) | (with_reducible refine Beside.more ?_ _))
            exact HB9.out
    | true =>
      go_wp2_with fail
      refine (l1Once b sa sl sc 8 (by decide) (by decide) x hcur).mono ?_
      rintro e y2 ⟨tt, rfl, hc2, hb2⟩
      have rY := hb2.at (by omega) rX
      have tY := hb2.at hgb tX
      have oY := ho.keep hb2.keep hbn
      have wY := hbW.trans hb2
      have cY := hc2
      clear tX rX ho hcur hbW hbr hb2 hc2 q0 q1 q2 qf
      cases tt with
      | true =>
        go_wp2_with fail
        refine (l1Once b sa sl sc 12 (by decide) (by decide) y2 cY).mono ?_
        rintro e y5 ⟨t5, rfl, hc5, hb5⟩
        have r5 := hb5.at (by omega) rY
        have t5' := hb5.at hgb tY
        have o5 := oY.keep hb5.keep hbn
        have w5 := wY.trans hb5
        clear rY tY oY hb5 wY cY
        cases t5 with
        | false =>
          have T9 := t5'
          have R9 := r5
          have HO9 : Hid (OwnsF y5 (w.heap.size + 1) (.slice A5 r.l.length cap5) r.l) := o5
          have HC9 : Hid (Cur y5 b sa sl sc) := hc5
          have HB9 : Hid (Beside b w y5) := w5
          clear t5' r5 o5 hc5 w5
          obtain ⟨c0, c1, c2, cf⟩ := box3 T9
          obtain ⟨d0, d1, d2, df⟩ := box3 R9
          have hgn' : w.heap.size ≠ g := by omega
          clear T9 R9
          go_wp2
          refine bodyPost_ret (v := .agg #[.int .i64 (r.s), .slice A5 r.l.length cap5, .string r.b]) (by simp [results, Tryz.results82, go_sem, d0, d1, d2]) rfl ⟨⟨⟨r.s, r.l, r.b⟩, .slice A5 r.l.length cap5, rfl, ?_, ⟨s3.more, s4⟩⟩, ?_, ?_⟩
          · refine OwnsF.low (B := w.heap.size + 1) ?_ (by omega)
            repeat (first | (with_reducible refine OwnsF.farG ?_ ?_ _; rotate_left; omega) | (with_reducible refine OwnsF.butG ?_ gne _) | (with_reducible refine OwnsF.alloc ?_ _))
            exact HO9.out
          · repeat (first | (with_reducible refine Cur.far ?_ ?_ _; rotate_left; omega) | (with_reducible refine Cur.more ?_ _))
            exact HC9.out
          · repeat (first | (with_reducible refine Beside.far ?_ ?_ _; rotate_left; omega) | (with_reducible refine Beside.more ?_ _))
            exact HB9.out
        | true =>
          go_wp2_with fail
          refine (l1Below b sa sl sc 2 (by decide) (by decide) y5 hc5).mono ?_
          rintro e y6 ⟨z, rfl, hz0, hz1, hc6, hb6⟩
          have r6 := hb6.at (by omega) r5
          have t6 := hb6.at hgb t5'
          have o6 := o5.keep hb6.keep hbn
          have w6 := w5.trans hb6
          have hy6 : b < y6.heap.size := hc6.2.2.1
          clear r5 t5' o5 hb6 w5 hc5
          rcases (show z = 0 ∨ z = 1 by omega) with rfl | rfl
          · have hba := (Below.refl y6.heap.size y6).alloc (Nat.le_refl _) (.cells tabS1 2)
            have ta := heap_alloc_new y6 (.cells tabS1 2)
            go_wp2_with fail
            refine (l1Below b sa sl sc 4 (by decide) (by decide) (y6.alloc (.cells tabS1 2)) (hc6.kept hba hy6)).mono ?_
            rintro e y7 ⟨z, rfl, hw0, hw1, hc7, hb7⟩
            obtain ⟨k, rfl⟩ : ∃ k : Nat, z = k := ⟨z.toNat, by omega⟩
            have r7 := hb7.at (by omega) (below_block r6 hba)
            have t7 := hb7.at hgb (below_block t6 hba)
            have o7 := (o6.alloc (.cells tabS1 2)).keep hb7.keep hbn
            have ta7 := hb7.at (by omega) ta
            have w7 := (w6.below hba).trans hb7
            obtain ⟨s, hs⟩ := tabS1_at k (by omega)
            have cs : y7.cell? ⟨y6.heap.size, k, none⟩ = some (.int .i64 s) := by rw [cell_of_row y7 _ k _ _ _ ta7]; exact hs
            obtain ⟨b0, b1, b2, bf⟩ := box3 t7
            have T9 := heap_setCell_same y7 g 0 _ _ (.int .i64 s) t7
            have R9 : (y7.setCell ⟨g, 0, none⟩ (.int .i64 s)).heap[w.heap.size]? = some (.cells #[.int .i64 0, .slice none 0 0, .string ⟨#[]⟩] 39) := by rw [heap_setCell_other y7 ⟨g, 0, none⟩ w.heap.size _ (by show w.heap.size ≠ g; omega)]; exact r7
            have gne := own_ne o7 t7 (by decide)
            have HO9 : Hid (OwnsF y7 (w.heap.size + 1) (.slice A5 r.l.length cap5) r.l) := o7
            have HC9 : Hid (Cur y7 b sa sl sc) := hc7
            have HB9 : Hid (Beside b w y7) := w7
            have hgn3 : y6.heap.size ≠ g := fun e => by rw [← e] at t6; have := (Array.getElem?_eq_some_iff.1 t6).1; omega
            clear ta ta7 r6 t6 r7 t7 o6 o7 hb7 hba hs w6 w7 hc6 hc7
            obtain ⟨c0, c1, c2, cf⟩ := box3 T9
            obtain ⟨d0, d1, d2, df⟩ := box3 R9
            have hgn' : w.heap.size ≠ g := by omega
            clear T9 R9
            go_wp2
            refine bodyPost_ret (v := .agg #[.int .i64 (s), .slice A5 r.l.length cap5, .string r.b]) (by simp [results, Tryz.results82, go_sem, d0, d1, d2]) rfl ⟨⟨⟨s, r.l, r.b⟩, .slice A5 r.l.length cap5, rfl, ?_, ⟨s3.more, s4⟩⟩, ?_, ?_⟩
            · refine OwnsF.low (B := w.heap.size + 1) ?_ (by omega)
              repeat (first | (with_reducible refine OwnsF.farG ?_ ?_ _; rotate_left; omega) | (with_reducible refine OwnsF.butG ?_ gne _) | (with_reducible refine OwnsF.alloc ?_ _))
              exact HO9.out
            · repeat (first | (with_reducible refine Cur.far ?_ ?_ _; rotate_left; omega) | (with_reducible refine Cur.more ?_ _))
              exact HC9.out
            · repeat (first | (with_reducible refine Beside.far ?_ ?_ _; rotate_left; omega) | (with_reducible refine Beside.more ?_ _))
              exact HB9.out
          · have hnz : w.heap.size < y6.heap.size := (Array.getElem?_eq_some_iff.1 r6).1
            obtain ⟨b0, b1, b2, bf⟩ := box3 t6
            have HO2 : Hid (OwnsF y6 (w.heap.size + 1) (.slice A5 r.l.length cap5) r.l) := o6
            have HT2 : Hid (y6.heap[g]? = some (.cells #[.int .i64 r.s, .slice A5 r.l.length cap5, .string r.b] 39)) := t6
            have HR2 : Hid (y6.heap[w.heap.size]? = some (.cells #[.int .i64 0, .slice none 0 0, .string ⟨#[]⟩] 39)) := r6
            have hl5 : r.l.length ≤ 31 := s3.1
            clear t6 r6 o6
            go_wp2_with (at_builtin; refine wpList_pushF _ rfl (.tmp 38) (.tmp 40) rfl (w.heap.size + 1) _ r.l teF rfl HO2.out rfl (by omega) (by omega) ?_; intro v3 y7 ho3 hg3; have hown3 : ∀ k, (Value.slice A5 r.l.length cap5).ownBlock = some k → w.heap.size + 1 ≤ k := OwnsF.from HO2.out; have gne0 : ∀ k, (Value.slice A5 r.l.length cap5).ownBlock = some k → k ≠ g := own_ne HO2.out HT2.out (by decide); have t7 : y7.heap[g]? = some (.cells #[.int .i64 r.s, .slice A5 r.l.length cap5, .string r.b] 39) := (by rw [hg3.block g (Array.getElem?_eq_some_iff.1 HT2.out).1 (fun e => gne0 g e.symm rfl)]; exact HT2.out); have r7 : y7.heap[w.heap.size]? = some (.cells #[.int .i64 0, .slice none 0 0, .string ⟨#[]⟩] 39) := (by rw [hg3.block w.heap.size (Array.getElem?_eq_some_iff.1 HR2.out).1 (fun e => by have := hown3 _ e.symm; omega)]; exact HR2.out); have HC9 : Hid (Cur y7 b sa sl sc) := hc6.kept (grown_low hg3 (fun k hk => hown3 k hk) (by omega)) (by omega); have HB9 : Hid (Beside b w y7) := w6.grown hg3 (fun k hk => by have := hown3 k hk; omega); have f3' := ho3.form; obtain ⟨A6, cap6, rfl, _⟩ := f3'; obtain ⟨n6, hn6⟩ : ∃ n, (r.l ++ [teF]).length = n := ⟨_, rfl⟩; rw [hn6] at ho3 ⊢; have b0' := (box3 t7).1; have b1' := (box3 t7).2.1; have b2' := (box3 t7).2.2.1; have bf' := (box3 t7).2.2.2; have T9 := heap_setCell_same y7 g 1 _ _ (.slice A6 n6 cap6) t7; have R9 : (y7.setCell ⟨g, 1, none⟩ (.slice A6 n6 cap6)).heap[w.heap.size]? = some (.cells #[.int .i64 0, .slice none 0 0, .string ⟨#[]⟩] 39) := (by rw [heap_setCell_other y7 ⟨g, 1, none⟩ w.heap.size _ (by show w.heap.size ≠ g; omega)]; exact r7); have gne := own_ne ho3 t7 (by decide); have HO9 : Hid (OwnsF y7 (w.heap.size + 1) (.slice A6 n6 cap6) (r.l ++ [teF])) := ho3; obtain ⟨c0, c1, c2, cf⟩ := box3 T9; obtain ⟨d0, d1, d2, df⟩ := box3 R9; have hgn' : w.heap.size ≠ g := (by omega); clear T9 R9 t7 r7 ho3 hg3; have HN6 : Hid (r.l.length ≤ 39) := (by show r.l.length ≤ 39; omega); clear hn6)
            refine bodyPost_ret (v := .agg #[.int .i64 r.s, .slice A6 n6 cap6, .string r.b]) (by simp [results, Tryz.results82, go_sem, d0, d1, d2]) rfl ⟨⟨⟨r.s, r.l ++ [teF], r.b⟩, .slice A6 n6 cap6, rfl, ?_, ⟨small_more s3.more HN6.out teF (by decide), s4⟩⟩, ?_, ?_⟩
            · refine OwnsF.low (B := w.heap.size + 1) ?_ (by omega)
              repeat (first | (with_reducible refine OwnsF.farG ?_ ?_ _; rotate_left; omega) | (with_reducible refine OwnsF.butG ?_ gne _) | (with_reducible refine OwnsF.alloc ?_ _))
              exact HO9.out
            · repeat (first | (with_reducible refine Cur.far ?_ ?_ _; rotate_left; omega) | (with_reducible refine Cur.more ?_ _))
              exact HC9.out
            · repeat (first | (with_reducible refine Beside.far ?_ ?_ _; rotate_left; omega) | (with_reducible refine Beside.more ?_ _))
              exact HB9.out
      | false =>
        obtain ⟨b0, b1, b2, bf⟩ := box3 tY
        have tY' := heap_setCell_same y2 g 2 _ _ (.string ⟨#[]⟩) tY
        have rY' : (y2.setCell ⟨g, 2, none⟩ (.string ⟨#[]⟩)).heap[w.heap.size]? = some (.cells #[.int .i64 0, .slice none 0 0, .string ⟨#[]⟩] 39) := by rw [heap_setCell_other y2 ⟨g, 2, none⟩ w.heap.size _ (by show w.heap.size ≠ g; omega)]; exact rY
        have oY' := oY.butG (k := 2) gne (.string ⟨#[]⟩)
        have cY' : Cur (y2.setCell ⟨g, 2, none⟩ (.string ⟨#[]⟩)) b sa sl sc := cY.far (by omega) _
        have wY' : Beside b w (y2.setCell ⟨g, 2, none⟩ (.string ⟨#[]⟩)) := wY.far (by omega) _
        go_wp2_with fail
        generalize y2.setCell ⟨g, 2, none⟩ (.string ⟨#[]⟩) = y3 at tY' rY' oY' cY' wY' ⊢
        clear tY rY oY cY wY b0 b1 b2 bf
        have tY : y3.heap[g]? = some (.cells #[.int .i64 r.s, .slice A5 r.l.length cap5, .string ⟨#[]⟩] 39) := tY'
        have rY := rY'
        have oY := oY'
        have cY := cY'
        have wY := wY'
        clear tY' rY' oY' cY' wY'
        go_wp2_with fail
        refine (l1Once b sa sl sc 12 (by decide) (by decide) y3 cY).mono ?_
        rintro e y5 ⟨t5, rfl, hc5, hb5⟩
        have r5 := hb5.at (by omega) rY
        have t5' := hb5.at hgb tY
        have o5 := oY.keep hb5.keep hbn
        have w5 := wY.trans hb5
        clear rY tY oY hb5 wY cY
        cases t5 with
        | false =>
          have T9 := t5'
          have R9 := r5
          have HO9 : Hid (OwnsF y5 (w.heap.size + 1) (.slice A5 r.l.length cap5) r.l) := o5
          have HC9 : Hid (Cur y5 b sa sl sc) := hc5
          have HB9 : Hid (Beside b w y5) := w5
          clear t5' r5 o5 hc5 w5
          obtain ⟨c0, c1, c2, cf⟩ := box3 T9
          obtain ⟨d0, d1, d2, df⟩ := box3 R9
          have hgn' : w.heap.size ≠ g := by omega
          clear T9 R9
          go_wp2
          refine bodyPost_ret (v := .agg #[.int .i64 (r.s), .slice A5 r.l.length cap5, .string ⟨#[]⟩]) (by simp [results, Tryz.results82, go_sem, d0, d1, d2]) rfl ⟨⟨⟨r.s, r.l, ⟨#[]⟩⟩, .slice A5 r.l.length cap5, rfl, ?_, ⟨s3.more, Nat.zero_le _⟩⟩, ?_, ?_⟩
          · refine OwnsF.low (B := w.heap.size + 1) ?_ (by omega)
            repeat (first | (with_reducible refine OwnsF.farG ?_ ?_ _; rotate_left; omega) | (with_reducible refine OwnsF.butG ?_ gne _) | (with_reducible refine OwnsF.alloc ?_ _))
            exact HO9.out
          · repeat (first | (with_reducible refine Cur.far ?_ ?_ _; rotate_left; omega) | (with_reducible refine Cur.more ?_ _))
            exact HC9.out
          · repeat (first | (with_reducible refine Beside.far ?_ ?_ _; rotate_left; omega) | (with_reducible refine Beside.more ?_ _))
            exact HB9.out
        | true =>
          go_wp2_with fail
          refine (l1Below b sa sl sc 2 (by decide) (by decide) y5 hc5).mono ?_
          rintro e y6 ⟨z, rfl, hz0, hz1, hc6, hb6⟩
          have r6 := hb6.at (by omega) r5
          have t6 := hb6.at hgb t5'
          have o6 := o5.keep hb6.keep hbn
          have w6 := w5.trans hb6
          have hy6 : b < y6.heap.size := hc6.2.2.1
          clear r5 t5' o5 hb6 w5 hc5
          rcases (show z = 0 ∨ z = 1 by omega) with rfl | rfl
          · have hba := (Below.refl y6.heap.size y6).alloc (Nat.le_refl _) (.cells tabS1 2)
            have ta := heap_alloc_new y6 (.cells tabS1 2)
            go_wp2_with fail
            refine (l1Below b sa sl sc 4 (by decide) (by decide) (y6.alloc (.cells tabS1 2)) (hc6.kept hba hy6)).mono ?_
            rintro e y7 ⟨z, rfl, hw0, hw1, hc7, hb7⟩
            obtain ⟨k, rfl⟩ : ∃ k : Nat, z = k := ⟨z.toNat, by omega⟩
            have r7 := hb7.at (by omega) (below_block r6 hba)
            have t7 := hb7.at hgb (below_block t6 hba)
            have o7 := (o6.alloc (.cells tabS1 2)).keep hb7.keep hbn
            have ta7 := hb7.at (by omega) ta
            have w7 := (w6.below hba).trans hb7
            obtain ⟨s, hs⟩ := tabS1_at k (by omega)
            have cs : y7.cell? ⟨y6.heap.size, k, none⟩ = some (.int .i64 s) := by rw [cell_of_row y7 _ k _ _ _ ta7]; exact hs
            obtain ⟨b0, b1, b2, bf⟩ := box3 t7
            have T9 := heap_setCell_same y7 g 0 _ _ (.int .i64 s) t7
            have R9 : (y7.setCell ⟨g, 0, none⟩ (.int .i64 s)).heap[w.heap.size]? = some (.cells #[.int .i64 0, .slice none 0 0, .string ⟨#[]⟩] 39) := by rw [heap_setCell_other y7 ⟨g, 0, none⟩ w.heap.size _ (by show w.heap.size ≠ g; omega)]; exact r7
            have gne := own_ne o7 t7 (by decide)
            have HO9 : Hid (OwnsF y7 (w.heap.size + 1) (.slice A5 r.l.length cap5) r.l) := o7
            have HC9 : Hid (Cur y7 b sa sl sc) := hc7
            have HB9 : Hid (Beside b w y7) := w7
            have hgn3 : y6.heap.size ≠ g := fun e => by rw [← e] at t6; have := (Array.getElem?_eq_some_iff.1 t6).1; omega
            clear ta ta7 r6 t6 r7 t7 o6 o7 hb7 hba hs w6 w7 hc6 hc7
            obtain ⟨c0, c1, c2, cf⟩ := box3 T9
            obtain ⟨d0, d1, d2, df⟩ := box3 R9
            have hgn' : w.heap.size ≠ g := by omega
            clear T9 R9
            go_wp2
            refine bodyPost_ret (v := .agg #[.int .i64 (s), .slice A5 r.l.length cap5, .string ⟨#[]⟩]) (by simp [results, Tryz.results82, go_sem, d0, d1, d2]) rfl ⟨⟨⟨s, r.l, ⟨#[]⟩⟩, .slice A5 r.l.length cap5, rfl, ?_, ⟨s3.more, Nat.zero_le _⟩⟩, ?_, ?_⟩
            · refine OwnsF.low (B := w.heap.size + 1) ?_ (by omega)
              repeat (first | (with_reducible refine OwnsF.farG ?_ ?_ _; rotate_left; omega) | (with_reducible refine OwnsF.butG ?_ gne _) | (with_reducible refine OwnsF.alloc ?_ _))
              exact HO9.out
            · repeat (first | (with_reducible refine Cur.far ?_ ?_ _; rotate_left; omega) | (with_reducible refine Cur.more ?_ _))
              exact HC9.out
            · repeat (first | (with_reducible refine Beside.far ?_ ?_ _; rotate_left; omega) | (with_reducible refine Beside.more ?_ _))
              exact HB9.out
          · have hnz : w.heap.size < y6.heap.size := (Array.getElem?_eq_some_iff.1 r6).1
            obtain ⟨b0, b1, b2, bf⟩ := box3 t6
            have HO2 : Hid (OwnsF y6 (w.heap.size + 1) (.slice A5 r.l.length cap5) r.l) := o6
            have HT2 : Hid (y6.heap[g]? = some (.cells #[.int .i64 r.s, .slice A5 r.l.length cap5, .string ⟨#[]⟩] 39)) := t6
            have HR2 : Hid (y6.heap[w.heap.size]? = some (.cells #[.int .i64 0, .slice none 0 0, .string ⟨#[]⟩] 39)) := r6
            have hl5 : r.l.length ≤ 31 := s3.1
            clear t6 r6 o6
            go_wp2_with (at_builtin; refine wpList_pushF _ rfl (.tmp 38) (.tmp 40) rfl (w.heap.size + 1) _ r.l teF rfl HO2.out rfl (by omega) (by omega) ?_; intro v3 y7 ho3 hg3; have hown3 : ∀ k, (Value.slice A5 r.l.length cap5).ownBlock = some k → w.heap.size + 1 ≤ k := OwnsF.from HO2.out; have gne0 : ∀ k, (Value.slice A5 r.l.length cap5).ownBlock = some k → k ≠ g := own_ne HO2.out HT2.out (by decide); have t7 : y7.heap[g]? = some (.cells #[.int .i64 r.s, .slice A5 r.l.length cap5, .string ⟨#[]⟩] 39) := (by rw [hg3.block g (Array.getElem?_eq_some_iff.1 HT2.out).1 (fun e => gne0 g e.symm rfl)]; exact HT2.out); have r7 : y7.heap[w.heap.size]? = some (.cells #[.int .i64 0, .slice none 0 0, .string ⟨#[]⟩] 39) := (by rw [hg3.block w.heap.size (Array.getElem?_eq_some_iff.1 HR2.out).1 (fun e => by have := hown3 _ e.symm; omega)]; exact HR2.out); have HC9 : Hid (Cur y7 b sa sl sc) := hc6.kept (grown_low hg3 (fun k hk => hown3 k hk) (by omega)) (by omega); have HB9 : Hid (Beside b w y7) := w6.grown hg3 (fun k hk => by have := hown3 k hk; omega); have f3' := ho3.form; obtain ⟨A6, cap6, rfl, _⟩ := f3'; obtain ⟨n6, hn6⟩ : ∃ n, (r.l ++ [teF]).length = n := ⟨_, rfl⟩; rw [hn6] at ho3 ⊢; have b0' := (box3 t7).1; have b1' := (box3 t7).2.1; have b2' := (box3 t7).2.2.1; have bf' := (box3 t7).2.2.2; have T9 := heap_setCell_same y7 g 1 _ _ (.slice A6 n6 cap6) t7; have R9 : (y7.setCell ⟨g, 1, none⟩ (.slice A6 n6 cap6)).heap[w.heap.size]? = some (.cells #[.int .i64 0, .slice none 0 0, .string ⟨#[]⟩] 39) := (by rw [heap_setCell_other y7 ⟨g, 1, none⟩ w.heap.size _ (by show w.heap.size ≠ g; omega)]; exact r7); have gne := own_ne ho3 t7 (by decide); have HO9 : Hid (OwnsF y7 (w.heap.size + 1) (.slice A6 n6 cap6) (r.l ++ [teF])) := ho3; obtain ⟨c0, c1, c2, cf⟩ := box3 T9; obtain ⟨d0, d1, d2, df⟩ := box3 R9; have hgn' : w.heap.size ≠ g := (by omega); clear T9 R9 t7 r7 ho3 hg3; have HN6 : Hid (r.l.length ≤ 39) := (by show r.l.length ≤ 39; omega); clear hn6)
            refine bodyPost_ret (v := .agg #[.int .i64 r.s, .slice A6 n6 cap6, .string ⟨#[]⟩]) (by simp [results, Tryz.results82, go_sem, d0, d1, d2]) rfl ⟨⟨⟨r.s, r.l ++ [teF], ⟨#[]⟩⟩, .slice A6 n6 cap6, rfl, ?_, ⟨small_more s3.more HN6.out teF (by decide), Nat.zero_le _⟩⟩, ?_, ?_⟩
            · refine OwnsF.low (B := w.heap.size + 1) ?_ (by omega)
              repeat (first | (with_reducible refine OwnsF.farG ?_ ?_ _; rotate_left; omega) | (with_reducible refine OwnsF.butG ?_ gne _) | (with_reducible refine OwnsF.alloc ?_ _))
              exact HO9.out
            · repeat (first | (with_reducible refine Cur.far ?_ ?_ _; rotate_left; omega) | (with_reducible refine Cur.more ?_ _))
              exact HC9.out
            · repeat (first | (with_reducible refine Beside.far ?_ ?_ _; rotate_left; omega) | (with_reducible refine Beside.more ?_ _))
              exact HB9.out
end Go.Proofs.YteibacmohplblaaGreatDoor

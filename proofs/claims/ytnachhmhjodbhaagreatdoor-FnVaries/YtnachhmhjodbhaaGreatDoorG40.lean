/-
  Objects in memory: all cells stored; fields that came in, appended to a row of one's own.
  Drawn responses for policy.
  A drawn moment for policy.
  Rows of fields that fit; objects that came in, later on.
-/
import Derived.Test.YtnachhmhjodbhaaGreatDoorG32
import Derived.Test.YtnachhmhjodbhaaGreatDoorG21
import Derived.Test.YtnachhmhjodbhaaGreatDoorG31
import Derived.Laws.Append
import Derived.Test.YtnachhmhjodbhaaGreatDoorG27
import Derived.Laws.AppendOwnNone
import Derived.Test.YtnachhmhjodbhaaGreatDoorG36
import Derived.Test.YtnachhmhjodbhaaGreatDoorG39
import Derived.Test.YtnachhmhjodbhaaGreatDoorG35
import Derived.Deep.RegionWith
namespace Go.Proofs.YtnachhmhjodbhaaGreatDoor
open Go.RowKit Go.Sort
set_option linter.unusedVariables false

theorem cells_ofX (l : List Fl) {w : World} {g o : Nat} (hc : ∀ j (hj : j < l.length), w.cell? ⟨g, o + j * 2, none⟩ = some (.string l[j].1) ∧ w.cell? ⟨g, o + j * 2 + 1, none⟩ = some (.string l[j].2)) : ∀ j u, (cellsF l)[j]? = some u → w.cell? ((⟨g, o, none⟩ : Addr).add j) = some u := by
  intro j u hu
  have hj : j < (cellsF l).length := (List.getElem?_eq_some_iff.1 hu).1
  rw [cellsF_length] at hj
  rw [addr_add, ← hu]
  obtain ⟨c1, c2⟩ := cellsF_at l (j / 2) (by omega)
  obtain ⟨d1, d2⟩ := hc (j / 2) (by omega)
  have h2 : j = j / 2 * 2 ∨ j = j / 2 * 2 + 1 := by omega
  rcases h2 with h2 | h2
  · rw [h2, c1]; exact d1
  · rw [h2, c2]; exact d2
/-- Fields that came in, appended to fields of one's own. -/
theorem wpList_catX {ops : Array Oper} {rest : List Oper} {o : Oper} {a : Act} {Q : Exit → Act → World → Prop} (w : World) (hgd : o.guard = none) (s x : Operand)
    (ho : o.op = .call { callee := .builtin .append, args := #[s, x], argTypes := #[24, 24] }) (B : Nat) (v vx : Value) (l m : List Fl) (hs : a.eval s = v) (hown : OwnsF w B v l)
    (hx : a.eval x = vx) (hm : Fls w vx m) (hsd : Solid vx) (hlen : l.length + m.length ≤ 1000000) (hB : B ≤ w.heap.size)
    (h : ∀ v' w', OwnsF w' B v' (l ++ m) → w.grownBy w' v.ownBlock → wpList Tryz.prog ops Q rest (a.put o.dst v') w') :
    wpList Tryz.prog ops Q (o :: rest) a w := by
  obtain ⟨i0, hi, hz0, hz1, hz2⟩ := info_parts Tryz.infoF
  obtain ⟨a1, cap, rfl, h1, h2, h3⟩ := hm
  have hcat : ∀ ad, a1 = some ad → wpList Tryz.prog ops Q (o :: rest) a w := fun ad e => by
    refine wpList_append_own _ hgd s x 24 ho B 41 i0 (.agg #[.string ⟨#[]⟩, .string ⟨#[]⟩]) 2 32 Tryz.underlying24 hi hz0 hz1 hz2 rfl (by decide) v l.length (cellsF l) hs hown ad m.length cap (cellsF m) (by rw [hx, e]) (cellsF_length m) ?_
      (cellsF_one m) (by unfold maxLen; omega) (by omega) hB ?_
    · intro j u hu
      have hj : j < (cellsF m).length := (List.getElem?_eq_some_iff.1 hu).1
      rw [cellsF_length] at hj
      obtain ⟨g, q, e2, _, hc⟩ := h3 (by omega)
      rw [e] at e2
      obtain rfl := Option.some.inj e2
      exact cells_ofX m hc j u hu
    · intro v' w' k1 k2 _
      refine h v' w' ?_ k2
      unfold OwnsF
      rw [cellsF_append, List.length_append]
      exact k1
  cases a1 with
  | some ad => exact hcat ad rfl
  | none =>
    have hm0 : m = [] := by
      cases m with
      | nil => rfl
      | cons f m => obtain ⟨g, q, e2, _⟩ := h3 (by simp); cases e2
    subst hm0
    have hc0 : cap = 0 := hsd _ _ rfl
    subst hc0
    refine wpList_append_own_none hgd s x 24 ho B 41 i0 2 Tryz.underlying24 hi v l.length (cellsF l) hs hown hx ?_
    exact h v w (by rw [List.append_nil]; exact hown) ⟨rfl, rfl, rfl, Nat.le_refl _, fun _ _ _ => rfl⟩
def obL (o : Ob) (v u : Value) : List Value := [.string o.k, v, .int .i64 o.r.s, u, .string o.r.b, .int .i64 o.asked, .int .i64 o.got, .int .i64 o.ep]
theorem ObB.puts {w : World} {b : Nat} {o : Ob} {v u : Value} (h : ObB w b o v u) (o' : Ob) (v' u' : Value) : ObB (putL w b (obL o' v' u') 0) b o' v' u' := by
  have k := fun i => (putL_cells (w0 := w) b (obL o' v' u') 0 w (fun j _ h2 => by
    have h3 : j < 8 := by simpa [obL] using h2
    rcases (show j = 0 ∨ j = 1 ∨ j = 2 ∨ j = 3 ∨ j = 4 ∨ j = 5 ∨ j = 6 ∨ j = 7 by omega) with rfl | rfl | rfl | rfl | rfl | rfl | rfl | rfl
    · exact ⟨_, h.c0⟩
    · exact ⟨_, h.c1⟩
    · exact ⟨_, h.c2⟩
    · exact ⟨_, h.c3⟩
    · exact ⟨_, h.c4⟩
    · exact ⟨_, h.c5⟩
    · exact ⟨_, h.c6⟩
    · exact ⟨_, h.c7⟩) i).1
  exact ⟨k 0 _ ⟨rfl, by omega⟩, k 1 _ ⟨rfl, by omega⟩, k 2 _ ⟨rfl, by omega⟩, k 3 _ ⟨rfl, by omega⟩, k 4 _ ⟨rfl, by omega⟩, k 5 _ ⟨rfl, by omega⟩, k 6 _ ⟨rfl, by omega⟩, k 7 _ ⟨rfl, by omega⟩, fun j => by rw [putL_frozen]; exact h.fz j, by rw [putL_size]; exact h.hi⟩
theorem ObB.same {w w' : World} {b : Nat} {o : Ob} {v u : Value} (h : ObB w b o v u) (e : w'.heap[b]? = w.heap[b]?) (hs : w.heap.size ≤ w'.heap.size) : ObB w' b o v u := by
  have k : ∀ k, w'.cell? ⟨b, k, none⟩ = w.cell? ⟨b, k, none⟩ := fun k => World.cell?_of_block (a := ⟨b, k, none⟩) e
  exact ⟨(k 0).trans h.c0, (k 1).trans h.c1, (k 2).trans h.c2, (k 3).trans h.c3, (k 4).trans h.c4, (k 5).trans h.c5, (k 6).trans h.c6, (k 7).trans h.c7, fun j => (World.frozen?_of_block (a := ⟨b, j, none⟩) e).trans (h.fz j), Nat.lt_of_lt_of_le h.hi hs⟩
theorem RsB.same {w w' : World} {b : Nat} {r : Rs} {v : Value} (h : RsB w b r v) (e : w'.heap[b]? = w.heap[b]?) (hs : w.heap.size ≤ w'.heap.size) : RsB w' b r v := by
  have k : ∀ k, w'.cell? ⟨b, k, none⟩ = w.cell? ⟨b, k, none⟩ := fun k => World.cell?_of_block (a := ⟨b, k, none⟩) e
  exact ⟨(k 0).trans h.c0, (k 1).trans h.c1, (k 2).trans h.c2, fun j => (World.frozen?_of_block (a := ⟨b, j, none⟩) e).trans (h.fz j), Nat.lt_of_lt_of_le h.hi hs⟩
end Go.Proofs.YtnachhmhjodbhaaGreatDoor
namespace Go.Proofs.YtnachhmhjodbhaaGreatDoor
open Go.RowKit Go.Sort
set_option linter.unusedVariables false
set_option linter.unusedSimpArgs false

/-- A small response of few fields. -/
def FewR (r : Rs) : Prop := FewF 3 r.l ∧ (200 ≤ r.s ∧ r.s ≤ 500) ∧ r.b.size ≤ 3
def gRs (B : Nat) (x : World) (v : Value) : Prop := ∃ r u, v = rsV r u ∧ OwnsF x B u r.l ∧ FewR r
theorem gRs.keep {b B : Nat} {x y : World} {v : Value} (h : gRs B x v) (hb : Beside b x y) (hB : b < B) : gRs B y v := by obtain ⟨r, u, h0, h1, h2⟩ := h; exact ⟨r, u, h0, h1.beside10 hb hB, h2⟩
theorem Beside.grow10 {b B : Nat} {w x y : World} (h : Beside b w x) (hb : Below B x y) (hB : w.heap.size ≤ B) : Beside b w y :=
  ⟨hb.os.trans h.1, hb.tape.trans h.2.1, hb.output.trans h.2.2.1, Nat.le_trans h.2.2.2.1 hb.size, fun k hk hne => (hb.block k (by omega)).trans (h.2.2.2.2 k hk hne)⟩
def frR (b n B : Nat) (t : Nat → Value) : Act := { tmps := #[.pointer (some ⟨b, 0, none⟩), undef, .pointer (some ⟨n, 0, none⟩), t 3, t 4, t 5, t 6, t 7, t 8, t 9, t 10, t 11, undef, undef, undef, undef, undef, undef, undef], defers := [] }
def dR (i : Nat) : Nat := if i = 0 then 4 else if i = 1 then 5 else if i = 2 then 6 else if i = 3 then 7 else if i = 4 then 8 else if i = 5 then 9 else if i = 6 then 10 else if i = 7 then 11 else if i = 8 then 3 else i + 5000
def GR (b n B : Nat) (i : Nat) (x : World) (v : Value) : Prop := match i with
  | 0 => gTabI b [200, 200, 404, 204, 500] x v
  | 1 => v = .pointer (some ⟨b, 0, none⟩)
  | 2 => gNum 5 v
  | 3 => gPtI b [200, 200, 404, 204, 500] x v
  | 4 => gInt (200) (500) v
  | 5 => v = .pointer (some ⟨b, 0, none⟩)
  | 6 => gFl B 3 x v
  | 7 => gRs B x v
  | 8 => gBox b B #[.int .i64 0, .slice none 0 0, .string ⟨#[]⟩] 30 x v
  | _ => True
theorem GR.keep (b n B : Nat) {x y : World} (hb : Beside b x y) (hB : b < B) (j : Nat) (v : Value) (hj : j < 9) (h : GR b n B j x v) : GR b n B j y v := by
  rcases (show j = 0 ∨ j = 1 ∨ j = 2 ∨ j = 3 ∨ j = 4 ∨ j = 5 ∨ j = 6 ∨ j = 7 ∨ j = 8 by omega) with rfl | rfl | rfl | rfl | rfl | rfl | rfl | rfl | rfl
  · exact gTabI.keep h hb
  · exact h
  · exact h
  · exact gPtI.keep h hb
  · exact h
  · exact h
  · exact gFl.keep h hb hB
  · exact gRs.keep h hb hB
  · exact gBox.keep h hb
theorem dR_ne {i j : Nat} (hi : i < 9) (hj : j < 9) (h : j ≠ i) : dR j ≠ dR i := by
  rcases (show i = 0 ∨ i = 1 ∨ i = 2 ∨ i = 3 ∨ i = 4 ∨ i = 5 ∨ i = 6 ∨ i = 7 ∨ i = 8 by omega) with rfl | rfl | rfl | rfl | rfl | rfl | rfl | rfl | rfl <;> rcases (show j = 0 ∨ j = 1 ∨ j = 2 ∨ j = 3 ∨ j = 4 ∨ j = 5 ∨ j = 6 ∨ j = 7 ∨ j = 8 by omega) with rfl | rfl | rfl | rfl | rfl | rfl | rfl | rfl | rfl <;> first | (exact absurd rfl h) | decide
set_option maxRecDepth 100000 in
set_option maxHeartbeats 8000000 in
theorem l10DrawR (b : Nat) (sa : Option Addr) (sl sc : Nat) (w : World) (hc : Cur w b sa sl sc) :
    Calls Tryz.prog 77 #[.pointer (some ⟨b, 0, none⟩)] w fun e w' => (∃ v, e = .returned v ∧ gRs w.heap.size w' v) ∧ Cur w' b sa sl sc ∧ Beside b w w' := by
  have hbz : b < w.heap.size := hc.2.2.1
  obtain ⟨B, hB⟩ : ∃ B, B = w.heap.size + 1 := ⟨_, rfl⟩
  have hBb : b < B := by omega
  have hBx : ∀ x, SCur b sa sl sc (w.alloc (.cells #[.int .i64 0, .slice none 0 0, .string ⟨#[]⟩] 30)) x → B ≤ x.heap.size := fun x h => by have := h.size; simp at this; omega
  have hS0 : SCur b sa sl sc (w.alloc (.cells #[.int .i64 0, .slice none 0 0, .string ⟨#[]⟩] 30)) (w.alloc (.cells #[.int .i64 0, .slice none 0 0, .string ⟨#[]⟩] 30)).drew := ⟨(hc.more9 _), ⟨rfl, rfl, rfl, Nat.le_refl _, fun _ _ _ => rfl⟩⟩
  go_enter Tryz.func77, Tryz.ntmps77
  go_wp2
  refine region_heads 9 mixed (by decide) (by kernel_rfl) (by kernel_rfl) (by kernel_rfl) (by kernel_rfl) (frR b w.heap.size B) dR (SCur b sa sl sc (w.alloc (.cells #[.int .i64 0, .slice none 0 0, .string ⟨#[]⟩] 30))) (GR b w.heap.size B) (fun i j hi hj h => dR_ne hi hj h) ?put (fun _ => undef) rfl ?hS ?step ?done
  case put =>
    intro i o hi ho t v
    rcases (show i = 0 ∨ i = 1 ∨ i = 2 ∨ i = 3 ∨ i = 4 ∨ i = 5 ∨ i = 6 ∨ i = 7 ∨ i = 8 by omega) with rfl | rfl | rfl | rfl | rfl | rfl | rfl | rfl | rfl
    all_goals
      obtain rfl := Option.some.inj ho
      rfl
  case step =>
    intro i o hi ho t x hS hdep K hK
    rcases (show i = 0 ∨ i = 1 ∨ i = 2 ∨ i = 3 ∨ i = 4 ∨ i = 5 ∨ i = 6 ∨ i = 7 ∨ i = 8 by omega) with rfl | rfl | rfl | rfl | rfl | rfl | rfl | rfl | rfl
    all_goals obtain rfl := Option.some.inj ho
    · have HK : Hid (K ((frR b w.heap.size B t).put (some 4) (.slice (some ⟨x.heap.size, 0, none⟩) 5 5)) (x.alloc (.cells (List.map (Value.int .i64) [200, 200, 404, 204, 500]).toArray 2))) := hK _ _ (hS.more _) (fun j u hj hne h => GR.keep b w.heap.size B (besAlloc b x _) hBb j u hj h) ⟨x.heap.size, rfl, newAt x _, (by have := hS.lt; omega)⟩
      unfold frR
      go_simp
      exact HK.out
    · have HK : Hid (K ((frR b w.heap.size B t).put (some 5) (.pointer (some ⟨b, 0, none⟩))) x) := hK _ _ hS (fun j u hj hne h => h) rfl
      unfold frR
      go_simp
      exact HK.out
    · have e : t 5 = .pointer (some ⟨b, 0, none⟩) := hdep { on := 1, ground := Ground.data } (by simp) rfl
      exact step_below rfl 5 (by decide) (by decide) (.tmp 5) _ rfl e hS (fun v y k1 k2 k3 => hK v y k1 (fun j u hj hne h => GR.keep b w.heap.size B k2 hBb j u hj h) k3)
    · have ga : gTabI b [200, 200, 404, 204, 500] x (t 4) := hdep { on := 0, ground := Ground.data } (by simp) rfl
      obtain ⟨g, ea, hT, hgb⟩ := ga
      have gc : gNum 5 (t 6) := hdep { on := 2, ground := Ground.data } (by simp) rfl
      obtain ⟨k, ec, hk⟩ := gc
      have hkI : (k : Int) < 5 := by omega
      have hk0 : ¬ (k : Int) < 0 := by omega
      have HK : Hid (K ((frR b w.heap.size B t).put (some 7) (.pointer (some ⟨g, k, none⟩))) x) := hK _ _ hS (fun j u hj hne h => h) ⟨g, k, rfl, hk, hT, hgb⟩
      have h2 := HK.out
      unfold frR at h2 ⊢
      go_simp
      simpa [Act.put, ea, ec, hkI] using h2
    · have ga : gPtI b [200, 200, 404, 204, 500] x (t 7) := hdep { on := 3, ground := Ground.data } (by simp) rfl
      obtain ⟨g, k, ea, hk, hT, hgb⟩ := ga
      obtain ⟨z, hz0, hz1, c0⟩ : ∃ z : Int, 200 ≤ z ∧ z ≤ 500 ∧ x.cell? ⟨g, k, none⟩ = some (.int .i64 z) := ⟨_, ((by decide : ∀ s ∈ ([200, 200, 404, 204, 500] : List Int), (200) ≤ s ∧ s ≤ 500) _ (List.getElem_mem hk)).1, ((by decide : ∀ s ∈ ([200, 200, 404, 204, 500] : List Int), (200) ≤ s ∧ s ≤ 500) _ (List.getElem_mem hk)).2, tabI_at hT hk⟩
      have HK : Hid (K ((frR b w.heap.size B t).put (some 8) (.int .i64 z)) x) := hK _ _ hS (fun j u hj hne h => h) ⟨z, rfl, hz0, hz1⟩
      have h2 := HK.out
      unfold frR at h2 ⊢
      go_simp
      simpa [Act.put, ea, c0] using h2
    · have HK : Hid (K ((frR b w.heap.size B t).put (some 9) (.pointer (some ⟨b, 0, none⟩))) x) := hK _ _ hS (fun j u hj hne h => h) rfl
      unfold frR
      go_simp
      exact HK.out
    · have e : t 9 = .pointer (some ⟨b, 0, none⟩) := hdep { on := 5, ground := Ground.data } (by simp) rfl
      exact step_draw1 rfl 100 (.tmp 9) _ rfl e hS (Go.Proofs.enters_of Tryz.func100 (by kernel_rfl) rfl) (fun x v => gFl B 3 x v) ((l10DrawFields b sa sl sc x hS.1).mono fun e y ⟨⟨u, l, h0, h1, h2⟩, h3, h4⟩ => ⟨⟨u, h0, l, h1.low (hBx x hS), h2⟩, h3, h4⟩) (fun v y k1 k2 k3 => hK v y k1 (fun j u hj hne h => GR.keep b w.heap.size B k2 hBb j u hj h) k3)
    · have ga : gInt 200 500 (t 8) := hdep { on := 4, ground := Ground.data } (by simp) rfl
      obtain ⟨z, ea, hz0, hz1⟩ := ga
      have gc : gFl B 3 x (t 10) := hdep { on := 6, ground := Ground.data } (by simp) rfl
      obtain ⟨l, ho, hl⟩ := gc
      obtain ⟨A5, cap5, ec, _⟩ := ho.form
      rw [ec] at ho
      have HK : Hid (K ((frR b w.heap.size B t).put (some 11) (.agg #[.int .i64 z, .slice A5 l.length cap5, .string ⟨#[]⟩])) x) := hK _ _ hS (fun j u hj hne h => h) ⟨⟨z, l, ⟨#[]⟩⟩, .slice A5 l.length cap5, rfl, ho, hl, ⟨hz0, hz1⟩, Nat.zero_le _⟩
      have h2 := HK.out
      unfold frR at h2 ⊢
      go_simp
      simpa [Act.put, ea, ec] using h2
    · have HK : Hid (K ((frR b w.heap.size B t).put (some 3) (.pointer (some ⟨x.heap.size, 0, none⟩))) (x.alloc (.cells #[.int .i64 0, .slice none 0 0, .string ⟨#[]⟩] 30))) := hK _ _ (hS.more _) (fun j u hj hne h => GR.keep b w.heap.size B (besAlloc b x _) hBb j u hj h) ⟨x.heap.size, rfl, newAt x _, (by have := hS.lt; omega), hBx x hS⟩
      unfold frR
      go_simp
      exact HK.out
  case hS => exact hS0
  case done =>
    intro t x hS hG
    obtain ⟨r, u, e11, ho, hr⟩ : gRs B x (t 11) := hG 7 (by decide)
    obtain ⟨g, e3, hT, hgb, hgB⟩ : gBox b B #[.int .i64 0, .slice none 0 0, .string ⟨#[]⟩] 30 x (t 3) := hG 8 (by decide)
    obtain ⟨A5, cap5, rfl, _⟩ := ho.form
    have G0 : Hid (RsB x g noS (.slice none 0 0)) := ⟨rowCell hT, rowCell hT, rowCell hT, fun k => by simp [World.frozen?, hT], (Array.getElem?_eq_some_iff.1 hT).1⟩
    have N0 : Hid (RsB x w.heap.size noS (.slice none 0 0)) := (RsB.new w noS (.slice none 0 0) 30).same (hS.2.2.2.2.2 w.heap.size (by simp) (by omega)) hS.size
    have hT1 := heap_setCell_same x g 0 _ _ (.int .i64 r.s) hT
    have o1 := ho.besides10 (k := 0) hT (by decide) (.int .i64 r.s)
    have hT2 := heap_setCell_same _ g 1 _ _ (.slice A5 r.l.length cap5) hT1
    have o2 := o1.besides10 (k := 1) hT1 (by decide) (.slice A5 r.l.length cap5)
    have hT3 := heap_setCell_same _ g 2 _ _ (.string r.b) hT2
    have o3 := o2.besides10 (k := 2) hT2 (by decide) (.string r.b)
    have hbs : Below B x (((x.setCell ⟨g, 0, none⟩ (.int .i64 r.s)).setCell ⟨g, 1, none⟩ (.slice A5 r.l.length cap5)).setCell ⟨g, 2, none⟩ (.string r.b)) := (((Below.refl B x).setCell (p := ⟨g, 0, none⟩) hgB _).setCell (p := ⟨g, 1, none⟩) hgB _).setCell (p := ⟨g, 2, none⟩) hgB _
    have G1 : Hid (RsB (((x.setCell ⟨g, 0, none⟩ (.int .i64 r.s)).setCell ⟨g, 1, none⟩ (.slice A5 r.l.length cap5)).setCell ⟨g, 2, none⟩ (.string r.b)) g r (.slice A5 r.l.length cap5)) := G0.out.puts10 r _
    have N1 : Hid (RsB (((x.setCell ⟨g, 0, none⟩ (.int .i64 r.s)).setCell ⟨g, 1, none⟩ (.slice A5 r.l.length cap5)).setCell ⟨g, 2, none⟩ (.string r.b)) w.heap.size noS (.slice none 0 0)) := N0.out.same (hbs.block _ (by omega)) hbs.size
    have O1 : Hid (OwnsF (((x.setCell ⟨g, 0, none⟩ (.int .i64 r.s)).setCell ⟨g, 1, none⟩ (.slice A5 r.l.length cap5)).setCell ⟨g, 2, none⟩ (.string r.b)) B (.slice A5 r.l.length cap5) r.l) := o3
    have C1 : Hid (Cur (((x.setCell ⟨g, 0, none⟩ (.int .i64 r.s)).setCell ⟨g, 1, none⟩ (.slice A5 r.l.length cap5)).setCell ⟨g, 2, none⟩ (.string r.b)) b sa sl sc) := hS.1.kept hbs hBb
    have T1 : Hid ((((x.setCell ⟨g, 0, none⟩ (.int .i64 r.s)).setCell ⟨g, 1, none⟩ (.slice A5 r.l.length cap5)).setCell ⟨g, 2, none⟩ (.string r.b)).heap[g]? = some (.cells #[.int .i64 r.s, .slice A5 r.l.length cap5, .string r.b] 30 (0, 0))) := hT3
    have S1 : Hid (Beside b w (((x.setCell ⟨g, 0, none⟩ (.int .i64 r.s)).setCell ⟨g, 1, none⟩ (.slice A5 r.l.length cap5)).setCell ⟨g, 2, none⟩ (.string r.b))) := (((Beside.refl b w).more9 _).trans hS.2).grow10 hbs (by omega)
    obtain ⟨g0, g1, g2, gf, gh⟩ := G0.out
    simp only [noS] at g0 g1 g2
    clear hT1 hT2 hT3 o1 o2 o3 hbs G0 N0 hT ho hS hG hc
    unfold rsV at e11
    unfold frR
    rw [e3, e11]
    clear e3 e11
    go_upto_region 2 with fail
    generalize (((x.setCell ⟨g, 0, none⟩ (.int .i64 r.s)).setCell ⟨g, 1, none⟩ (.slice A5 r.l.length cap5)).setCell ⟨g, 2, none⟩ (.string r.b)) = y at G1 N1 O1 C1 T1 S1 ⊢
    clear g0 g1 g2 gf gh
    obtain ⟨g0, g1, g2, gf, gh⟩ := G1.out
    by_cases h204 : r.s = 204
    · have d204 : (r.s == 204) = true := by simpa using h204
      clear h204
      have N2 := N1
      obtain ⟨n0, n1, n2, nf, nh⟩ := N2.out
      simp only [noS] at n0 n1 n2
      have P1 : Hid (RsB (((y.setCell ⟨w.heap.size, 0, none⟩ (.int .i64 r.s)).setCell ⟨w.heap.size, 1, none⟩ (.slice A5 r.l.length cap5)).setCell ⟨w.heap.size, 2, none⟩ (.string r.b)) w.heap.size ⟨r.s, r.l, r.b⟩ (.slice A5 r.l.length cap5)) := N2.out.puts10 ⟨r.s, r.l, r.b⟩ _
      have BP : Hid (Below w.heap.size y (((y.setCell ⟨w.heap.size, 0, none⟩ (.int .i64 r.s)).setCell ⟨w.heap.size, 1, none⟩ (.slice A5 r.l.length cap5)).setCell ⟨w.heap.size, 2, none⟩ (.string r.b))) := (((Below.refl _ y).setCell (p := ⟨w.heap.size, 0, none⟩) (Nat.le_refl _) _).setCell (p := ⟨w.heap.size, 1, none⟩) (Nat.le_refl _) _).setCell (p := ⟨w.heap.size, 2, none⟩) (Nat.le_refl _) _
      have Q1 : Hid (OwnsF (((y.setCell ⟨w.heap.size, 0, none⟩ (.int .i64 r.s)).setCell ⟨w.heap.size, 1, none⟩ (.slice A5 r.l.length cap5)).setCell ⟨w.heap.size, 2, none⟩ (.string r.b)) B (.slice A5 r.l.length cap5) r.l) := ((O1.out.putlow10 (by omega) 0 _).putlow10 (by omega) 1 _).putlow10 (by omega) 2 _
      go_wp2
      have p0 := P1.out.c0
      have p1 := P1.out.c1
      have p2 := P1.out.c2
      simp only at p0 p1 p2
      refine bodyPost_ret (v := rsV ⟨r.s, r.l, r.b⟩ (.slice A5 r.l.length cap5)) (by unfold rsV; simp [results, Tryz.results77, go_sem, p0, p1, p2]) rfl ⟨⟨_, rfl, ⟨r.s, r.l, r.b⟩, _, rfl, Q1.out.low (by omega), hr⟩, C1.out.kept BP.out hbz, S1.out.grow10 BP.out (Nat.le_refl _)⟩
    · have d204 : (r.s == 204) = false := by simpa using h204
      have hgz : g < y.heap.size := gh
      go_wp2_with fail
      refine (l1DrawText b sa sl sc ⟨#[97, 98]⟩ 3 (by decide) (by decide) (by decide) y C1.out).mono ?_
      rintro e z ⟨tt, rfl, ht, hc2, hb2⟩
      have C2 : Hid (Cur z b sa sl sc) := hc2
      have G2 : Hid (RsB z g r (.slice A5 r.l.length cap5)) := G1.out.same (hb2.2.2.2.2 g hgz hgb) hb2.2.2.2.1
      have M2 : Hid (RsB z w.heap.size noS (.slice none 0 0)) := N1.out.same (hb2.2.2.2.2 _ N1.out.hi (by omega)) hb2.2.2.2.1
      have O2 : Hid (OwnsF z B (.slice A5 r.l.length cap5) r.l) := O1.out.beside10 hb2 hBb
      have S2 : Hid (Beside b w z) := S1.out.trans hb2
      have T2 : Hid (z.heap[g]? = some (.cells #[.int .i64 r.s, .slice A5 r.l.length cap5, .string r.b] 30 (0, 0))) := besAt hb2 T1.out hgb
      clear hb2 hc2 G1 N1 O1 C1 T1 S1 g0 g1 g2 gf gh
      have hbs : Below B z (z.setCell ⟨g, 2, none⟩ (.string tt)) := (Below.refl B z).setCell (p := ⟨g, 2, none⟩) hgB _
      have G3 : Hid (RsB (z.setCell ⟨g, 2, none⟩ (.string tt)) g ⟨r.s, r.l, tt⟩ (.slice A5 r.l.length cap5)) := G2.out.put2 tt
      have N2 : Hid (RsB (z.setCell ⟨g, 2, none⟩ (.string tt)) w.heap.size noS (.slice none 0 0)) := M2.out.same (hbs.block _ (by omega)) hbs.size
      have O3 : Hid (OwnsF (z.setCell ⟨g, 2, none⟩ (.string tt)) B (.slice A5 r.l.length cap5) r.l) := O2.out.besides10 (k := 2) T2.out (by decide) _
      have C3 : Hid (Cur (z.setCell ⟨g, 2, none⟩ (.string tt)) b sa sl sc) := C2.out.kept hbs hBb
      have S3 : Hid (Beside b w (z.setCell ⟨g, 2, none⟩ (.string tt))) := S2.out.grow10 hbs (by omega)
      obtain ⟨g0, g1, g2, gf, gh⟩ := G2.out
      clear hbs M2 O2 C2 S2 T2 G2
      go_upto_region 4 with fail
      generalize z.setCell ⟨g, 2, none⟩ (.string tt) = y2 at G3 N2 O3 C3 S3 ⊢
      clear g0 g1 g2 gf gh
      obtain ⟨g0, g1, g2, gf, gh⟩ := G3.out
      simp only at g0 g1 g2
      obtain ⟨n0, n1, n2, nf, nh⟩ := N2.out
      simp only [noS] at n0 n1 n2
      have P1 : Hid (RsB (((y2.setCell ⟨w.heap.size, 0, none⟩ (.int .i64 r.s)).setCell ⟨w.heap.size, 1, none⟩ (.slice A5 r.l.length cap5)).setCell ⟨w.heap.size, 2, none⟩ (.string tt)) w.heap.size ⟨r.s, r.l, tt⟩ (.slice A5 r.l.length cap5)) := N2.out.puts10 ⟨r.s, r.l, tt⟩ _
      have BP : Hid (Below w.heap.size y2 (((y2.setCell ⟨w.heap.size, 0, none⟩ (.int .i64 r.s)).setCell ⟨w.heap.size, 1, none⟩ (.slice A5 r.l.length cap5)).setCell ⟨w.heap.size, 2, none⟩ (.string tt))) := (((Below.refl _ y2).setCell (p := ⟨w.heap.size, 0, none⟩) (Nat.le_refl _) _).setCell (p := ⟨w.heap.size, 1, none⟩) (Nat.le_refl _) _).setCell (p := ⟨w.heap.size, 2, none⟩) (Nat.le_refl _) _
      have Q1 : Hid (OwnsF (((y2.setCell ⟨w.heap.size, 0, none⟩ (.int .i64 r.s)).setCell ⟨w.heap.size, 1, none⟩ (.slice A5 r.l.length cap5)).setCell ⟨w.heap.size, 2, none⟩ (.string tt)) B (.slice A5 r.l.length cap5) r.l) := ((O3.out.putlow10 (by omega) 0 _).putlow10 (by omega) 1 _).putlow10 (by omega) 2 _
      go_wp2
      have p0 := P1.out.c0
      have p1 := P1.out.c1
      have p2 := P1.out.c2
      simp only at p0 p1 p2
      refine bodyPost_ret (v := rsV ⟨r.s, r.l, tt⟩ (.slice A5 r.l.length cap5)) (by unfold rsV; simp [results, Tryz.results77, go_sem, p0, p1, p2]) rfl ⟨⟨_, rfl, ⟨r.s, r.l, tt⟩, _, rfl, Q1.out.low (by omega), ⟨hr.1, hr.2.1, ht⟩⟩, C3.out.kept BP.out hbz, S3.out.grow10 BP.out (Nat.le_refl _)⟩
end Go.Proofs.YtnachhmhjodbhaaGreatDoor
namespace Go.Proofs.YtnachhmhjodbhaaGreatDoor
open Go.RowKit Go.Sort
set_option linter.unusedVariables false

theorem ObB.beside {w w' : World} {b c : Nat} {o : Ob} {v u : Value} (h : ObB w c o v u) (hb : Beside b w w') (hne : c ≠ b) : ObB w' c o v u := by
  have e : w'.heap[c]? = w.heap[c]? := hb.2.2.2.2 c h.hi hne
  have k : ∀ k, w'.cell? ⟨c, k, none⟩ = w.cell? ⟨c, k, none⟩ := fun k => World.cell?_of_block (a := ⟨c, k, none⟩) e
  exact ⟨(k 0).trans h.c0, (k 1).trans h.c1, (k 2).trans h.c2, (k 3).trans h.c3, (k 4).trans h.c4, (k 5).trans h.c5, (k 6).trans h.c6, (k 7).trans h.c7, fun j => (World.frozen?_of_block (a := ⟨c, j, none⟩) e).trans (h.fz j), Nat.lt_of_lt_of_le h.hi hb.2.2.2.1⟩
end Go.Proofs.YtnachhmhjodbhaaGreatDoor
namespace Go.Proofs.YtnachhmhjodbhaaGreatDoor
open Go.RowKit Go.Sort
set_option linter.unusedVariables false

theorem OwnsF.solid10 {w : World} {B : Nat} {v : Value} {l : List Fl} (h : OwnsF w B v l) : Solid v := by
  rcases h.2 with ⟨h0, _⟩ | ⟨g, cap, cur, hv, _⟩
  · rw [h0]; intro n c e; injection e with _ _ e; exact e.symm
  · rw [hv]; intro n c e; injection e with e _ _; cases e
theorem OwnsF.fits10 {w : World} {B : Nat} {v : Value} {l : List Fl} (h : OwnsF w B v l) (h1 : szL l ≤ 1048576) (h2 : l.length ≤ 1048576) : Fits w v l := ⟨h.fls, h1, h2, h.solid10⟩
theorem RsGot.kept10 {w w' : World} {v : Value} {r : Rs} (h : RsGot w v r) (hb : Below w.heap.size w w') : RsGot w' v r := ⟨h.1.kept hb, h.2⟩
theorem ObGot.kept {w w' : World} {v u : Value} {o : Ob} (h : ObGot w v u o) (hb : Below w.heap.size w w') : ObGot w' v u o := ⟨h.1.kept hb, h.2.1, h.2.2.1, h.2.2.2.1.kept10 hb, h.2.2.2.2⟩
/-- The two rows of fields of an object. -/
def TwoF (w : World) (v u : Value) (o : Ob) : Prop := Fls w v o.l ∧ Fls w u o.r.l
theorem TwoF.kept {w w' : World} {v u : Value} {o : Ob} (h : TwoF w v u o) (hb : Below w.heap.size w w') : TwoF w' v u o := ⟨h.1.kept hb, h.2.kept hb⟩
end Go.Proofs.YtnachhmhjodbhaaGreatDoor

/-
  What the operations of a region that draws from a cursor leave, good for as long as all blocks but the cursor's stay.
  Drawn dates and fields for policy.
  Drawn responses for policy.
  A drawn moment for policy.
  The specification's Renewed by its contract.
  Drawn objects for policy.
  A region that draws its order, by what holds whichever of its operations have been carried out.
-/
import Derived.Test.YtkaogmdhjcgcdaaGreatDoorG31
import Derived.Test.YtkaogmdhjcgcdaaGreatDoorG33
import Derived.Test.YtkaogmdhjcgcdaaGreatDoorG34
import Derived.Test.YtkaogmdhjcgcdaaGreatDoorG32
import Derived.Test.YtkaogmdhjcgcdaaGreatDoorG20
import Derived.Deep.DeepCutAuto
import Derived.Test.YtkaogmdhjcgcdaaGreatDoorG30
import Derived.Deep.RegionWith
import Derived.Test.YtkaogmdhjcgcdaaGreatDoorG29
import Derived.Shelf.Abstract
namespace Go.Proofs.YtkaogmdhjcgcdaaGreatDoor
open Go.RowKit Go.Sort
set_option linter.unusedVariables false

theorem besAt {b : Nat} {x y : World} (h : Beside b x y) {g : Nat} {o : Obj} (hg : x.heap[g]? = some o) (hne : g ≠ b) : y.heap[g]? = some o := (h.2.2.2.2 g (Array.getElem?_eq_some_iff.1 hg).1 hne).trans hg
theorem besAlloc (b : Nat) (x : World) (o : Obj) : Beside b x (x.alloc o) := (Beside.refl b x).more9 o
/-- A table of numbers, of texts; a place in it. -/
def gTabI (b : Nat) (L : List Int) (x : World) (v : Value) : Prop := ∃ g, v = .slice (some ⟨g, 0, none⟩) L.length L.length ∧ x.heap[g]? = some (.cells (L.map (Value.int .i64)).toArray 2 (0, 0)) ∧ g ≠ b
def gPtI (b : Nat) (L : List Int) (x : World) (v : Value) : Prop := ∃ g k, v = .pointer (some ⟨g, k, none⟩) ∧ k < L.length ∧ x.heap[g]? = some (.cells (L.map (Value.int .i64)).toArray 2 (0, 0)) ∧ g ≠ b
def gTabS (b : Nat) (L : List ByteArray) (x : World) (v : Value) : Prop := ∃ g, v = .slice (some ⟨g, 0, none⟩) L.length L.length ∧ x.heap[g]? = some (.cells (L.map Value.string).toArray 9 (0, 0)) ∧ g ≠ b
def gPtS (b : Nat) (L : List ByteArray) (x : World) (v : Value) : Prop := ∃ g k, v = .pointer (some ⟨g, k, none⟩) ∧ k < L.length ∧ x.heap[g]? = some (.cells (L.map Value.string).toArray 9 (0, 0)) ∧ g ≠ b
theorem gTabI.keep {b : Nat} {L : List Int} {x y : World} {v : Value} (h : gTabI b L x v) (hb : Beside b x y) : gTabI b L y v := by obtain ⟨g, h1, h2, h3⟩ := h; exact ⟨g, h1, besAt hb h2 h3, h3⟩
theorem gPtI.keep {b : Nat} {L : List Int} {x y : World} {v : Value} (h : gPtI b L x v) (hb : Beside b x y) : gPtI b L y v := by obtain ⟨g, k, h1, h2, h3, h4⟩ := h; exact ⟨g, k, h1, h2, besAt hb h3 h4, h4⟩
theorem gTabS.keep {b : Nat} {L : List ByteArray} {x y : World} {v : Value} (h : gTabS b L x v) (hb : Beside b x y) : gTabS b L y v := by obtain ⟨g, h1, h2, h3⟩ := h; exact ⟨g, h1, besAt hb h2 h3, h3⟩
theorem gPtS.keep {b : Nat} {L : List ByteArray} {x y : World} {v : Value} (h : gPtS b L x v) (hb : Beside b x y) : gPtS b L y v := by obtain ⟨g, k, h1, h2, h3, h4⟩ := h; exact ⟨g, k, h1, h2, besAt hb h3 h4, h4⟩
theorem tabI_at {x : World} {g k : Nat} {L : List Int} (h : x.heap[g]? = some (.cells (L.map (Value.int .i64)).toArray 2 (0, 0))) (hk : k < L.length) : x.cell? ⟨g, k, none⟩ = some (.int .i64 L[k]) := by rw [rowCell h]; simp [hk]
theorem tabS_at {x : World} {g k : Nat} {L : List ByteArray} (h : x.heap[g]? = some (.cells (L.map Value.string).toArray 9 (0, 0))) (hk : k < L.length) : x.cell? ⟨g, k, none⟩ = some (.string L[k]) := by rw [rowCell h]; simp [hk]
def gNum (n : Nat) (v : Value) : Prop := ∃ k : Nat, v = .int .i64 k ∧ k < n
def gInt (lo hi : Int) (v : Value) : Prop := ∃ z : Int, v = .int .i64 z ∧ lo ≤ z ∧ z ≤ hi
def gTxt (n : Nat) (v : Value) : Prop := ∃ s : ByteArray, v = .string s ∧ s.size ≤ n
def gFl (B m : Nat) (x : World) (v : Value) : Prop := ∃ l, OwnsF x B v l ∧ FewF m l
theorem gFl.keep {b B m : Nat} {x y : World} {v : Value} (h : gFl B m x v) (hb : Beside b x y) (hB : b < B) : gFl B m y v := by obtain ⟨l, h1, h2⟩ := h; exact ⟨l, h1.beside10 hb hB, h2⟩
/-- A struct in a block of its own, from B on. -/
def gBox (b B : Nat) (c : Array Value) (ty : TypeId) (x : World) (v : Value) : Prop := ∃ g, v = .pointer (some ⟨g, 0, none⟩) ∧ x.heap[g]? = some (.cells c ty (0, 0)) ∧ g ≠ b ∧ B ≤ g
theorem gBox.keep {b B : Nat} {c : Array Value} {ty : TypeId} {x y : World} {v : Value} (h : gBox b B c ty x v) (hb : Beside b x y) : gBox b B c ty y v := by obtain ⟨g, h1, h2, h3, h4⟩ := h; exact ⟨g, h1, besAt hb h2 h3, h3, h4⟩
/-- What holds of the world all along. -/
def SCur (b : Nat) (sa : Option Addr) (sl sc : Nat) (w0 x : World) : Prop := Cur x b sa sl sc ∧ Beside b w0 x
theorem SCur.more {b : Nat} {sa : Option Addr} {sl sc : Nat} {w0 x : World} (h : SCur b sa sl sc w0 x) (o : Obj) : SCur b sa sl sc w0 (x.alloc o) := ⟨h.1.more9 o, h.2.more9 o⟩
theorem SCur.lt {b : Nat} {sa : Option Addr} {sl sc : Nat} {w0 x : World} (h : SCur b sa sl sc w0 x) : b < x.heap.size := h.1.2.2.1
theorem SCur.size {b : Nat} {sa : Option Addr} {sl sc : Nat} {w0 x : World} (h : SCur b sa sl sc w0 x) : w0.heap.size ≤ x.heap.size := h.2.2.2.2.1
/-- A drawn number below n, as one step. -/
theorem step_below {ops : Array Oper} {o : Oper} {a : Act} {x : World} {K : Act → World → Prop} {Q : Exit → Act → World → Prop} {E : Prop} {b : Nat} {sa : Option Addr} {sl sc : Nat} {w0 : World} (hgd : o.guard = none) (n : Nat) (h1 : 0 < n) (h2 : n ≤ 100000) (p : Operand) (ts : Array TypeId)
    (ho : o.op = .call { callee := .value (.func 65), args := #[p, .const (.int .i64 (n : Int))], argTypes := ts }) (hp : a.eval p = .pointer (some ⟨b, 0, none⟩)) (hS : SCur b sa sl sc w0 x)
    (h : ∀ v y, SCur b sa sl sc w0 y → Beside b x y → gNum n v → K (a.put o.dst v) y) : if Region.wanted o (yielded ops a.tmps) = true then Oper.wp Tryz.prog o a x K Q else E := by
  have hent : ∀ args w, (callFunc 65 args).run Tryz.prog w = .ok (.enter 65 args) w := Go.Proofs.enters_of Tryz.func65 (by kernel_rfl) rfl
  refine step_call2 hgd 65 p (.const (.int .i64 (n : Int))) ts ho (.pointer (some ⟨b, 0, none⟩)) (.int .i64 (n : Int)) hp rfl (hent _) (fun u y => SCur b sa sl sc w0 y ∧ Beside b x y ∧ gNum n u) ((l1Below b sa sl sc n (by omega) (by omega) x hS.1).mono ?_) ?_
  · rintro e y ⟨z, h0, hz0, hz1, hc, hb⟩
    exact ⟨_, h0, ⟨hc, hS.2.trans hb⟩, hb, z.toNat, by rw [Int.toNat_of_nonneg hz0], by omega⟩
  · rintro v y ⟨k1, k2, k3⟩
    exact h v y k1 k2 k3
/-- Any function of the program that draws from the cursor alone, as one step. -/
theorem step_draw1 {ops : Array Oper} {o : Oper} {a : Act} {x : World} {K : Act → World → Prop} {Q : Exit → Act → World → Prop} {E : Prop} {b : Nat} {sa : Option Addr} {sl sc : Nat} {w0 : World} (hgd : o.guard = none) (f : FuncId) (p : Operand) (ts : Array TypeId)
    (ho : o.op = .call { callee := .value (.func f), args := #[p], argTypes := ts }) (hp : a.eval p = .pointer (some ⟨b, 0, none⟩)) (hS : SCur b sa sl sc w0 x) (hent : ∀ args w, (callFunc f args).run Tryz.prog w = .ok (.enter f args) w) (R : World → Value → Prop)
    (hf : Calls Tryz.prog f #[.pointer (some ⟨b, 0, none⟩)] x fun e y => (∃ v, e = .returned v ∧ R y v) ∧ Cur y b sa sl sc ∧ Beside b x y)
    (h : ∀ v y, SCur b sa sl sc w0 y → Beside b x y → R y v → K (a.put o.dst v) y) : if Region.wanted o (yielded ops a.tmps) = true then Oper.wp Tryz.prog o a x K Q else E := by
  refine step_call1 hgd f p ts ho (.pointer (some ⟨b, 0, none⟩)) hp (hent _) (fun u y => SCur b sa sl sc w0 y ∧ Beside b x y ∧ R y u) (hf.mono ?_) ?_
  · rintro e y ⟨⟨v, h0, hr⟩, hc, hb⟩
    exact ⟨v, h0, ⟨hc, hS.2.trans hb⟩, hb, hr⟩
  · rintro v y ⟨k1, k2, k3⟩
    exact h v y k1 k2 k3
end Go.Proofs.YtkaogmdhjcgcdaaGreatDoor
namespace Go.Proofs.YtkaogmdhjcgcdaaGreatDoor
open Go.RowKit Go.Sort
set_option linter.unusedVariables false

set_option maxHeartbeats 1000000 in
theorem l10DrawDate (b : Nat) (sa : Option Addr) (sl sc : Nat) (w : World) (hc : Cur w b sa sl sc) :
    Calls Tryz.prog 109 #[.pointer (some ⟨b, 0, Option.none⟩)] w fun e w' => (∃ t : ByteArray, e = .returned (.string t) ∧ t.size ≤ 29) ∧ Cur w' b sa sl sc ∧ Beside b w w' := by
  have hbz : b < w.heap.size := hc.2.2.1
  go_enter Tryz.func109, Tryz.ntmps109
  go_wp2_with fail
  refine (l1Below b sa sl sc 40 (by decide) (by decide) _ hc).mono ?_
  rintro e w1 ⟨x, rfl, hx0, hx1, hc1, hb1⟩
  have e1 : IntKind.i64.wrap (990 + x) = 990 + x := by rw [IntKind.wrap_i64]; omega
  have C1 : Hid (Cur w1 b sa sl sc) := hc1
  have B1 : Hid (Beside b w w1) := hb1
  clear hc hc1 hb1
  go_wp2_with fail
  refine (Dd.specAt_in (990 + x) _ (by omega) (by omega)).mono ?_
  rintro e w2 ⟨⟨y, m, d, h, i, s, rfl, hok, _⟩, hg2⟩
  have C2 : Hid (Cur w2 b sa sl sc) := C1.out.kept hg2.low C1.out.2.2.1
  have B2 : Hid (Beside b w w2) := B1.out.below hg2.low
  clear hg2 C1 B1
  have hsz := Dd.showA_size y m d h i s
  have hsh := fun W => Dd.specShow_in y m d h i s W (decide_eq_true hok)
  generalize Dd.showA y m d h i s = t at hsz hsh
  go_wp2_with fail
  refine (hsh _).mono ?_
  rintro e w3 ⟨rfl, hg3⟩
  have C3 : Hid (Cur w3 b sa sl sc) := C2.out.kept hg3.low C2.out.2.2.1
  have B3 : Hid (Beside b w w3) := B2.out.below hg3.low
  clear hg3 C2 B2 hsh hok
  go_wp2
  go_ret
  exact ⟨⟨t, rfl, by omega⟩, C3.out, B3.out⟩
theorem OwnsF.but10 {w : World} {B g k : Nat} {v : Value} {l : List Fl} (h : OwnsF w B v l) (hne : ∀ j, v.ownBlock = some j → j ≠ g) (x : Value) : OwnsF (w.setCell ⟨g, k, none⟩ x) B v l := by
  refine ⟨h.1, ?_⟩
  rcases h.2 with h0 | ⟨g2, cap, cur, hv, hbg, hg, rest⟩
  · exact .inl h0
  · exact .inr ⟨g2, cap, cur, hv, hbg, by rw [Below.heap_setCell _ _ _ _ (by show g2 ≠ g; exact hne g2 (by rw [hv]; rfl))]; exact hg, rest⟩
theorem Beside.set10 {b g k : Nat} {w x : World} (h : Beside b w x) (hg : w.heap.size ≤ g) (v : Value) : Beside b w (x.setCell ⟨g, k, none⟩ v) :=
  ⟨h.1, h.2.1, h.2.2.1, by rw [World.size_setCell]; exact h.2.2.2.1, fun j hj hne => (Below.heap_setCell _ _ _ _ (by show j ≠ g; omega)).trans (h.2.2.2.2 j hj hne)⟩
theorem below_set10 (x : World) (g k : Nat) (v : Value) : Below g x (x.setCell ⟨g, k, none⟩ v) := (Below.refl g x).setCell (show g ≤ (⟨g, k, none⟩ : Addr).block from Nat.le_refl _) v
set_option maxRecDepth 100000 in
set_option maxHeartbeats 16000000 in
theorem l10DrawFields (b : Nat) (sa : Option Addr) (sl sc : Nat) (w : World) (hc : Cur w b sa sl sc) :
    Calls Tryz.prog 74 #[.pointer (some ⟨b, 0, Option.none⟩)] w fun e w' => (∃ u l, e = .returned u ∧ OwnsF w' w.heap.size u l ∧ FewF 3 l) ∧ Cur w' b sa sl sc ∧ Beside b w w' := by
  have hbz : b < w.heap.size := hc.2.2.1
  have hb0 := (Below.refl w.heap.size w).alloc (Nat.le_refl _) (.cells #[] 105)
  go_enter Tryz.func74, Tryz.ntmps74
  go_wp2_with fail
  refine (l1Below b sa sl sc 4 (by decide) (by decide) (w.alloc (.cells #[] 105)) (hc.kept hb0 hbz)).mono ?_
  rintro e w1 ⟨z, rfl, hz0, hz1, hc1, hb1⟩
  obtain ⟨m, rfl⟩ : ∃ m : Nat, z = m := ⟨z.toNat, by omega⟩
  have ho1 := (OwnsF.born w).beside10 hb1 hbz
  have hbs1 := ((Beside.refl b w).below hb0).trans hb1
  go_wp2_with fail
  go_loopw [3, 4, 5] (fun u i _ wr => ∃ (k : Nat) (l : List Fl), i = .int .i64 k ∧ l.length + k ≤ 3 ∧ Hid (∀ f ∈ l, f.1.size ≤ 13 ∧ f.2.size ≤ 84) ∧ Hid (OwnsF wr w.heap.size u l) ∧ Hid (Cur wr b sa sl sc) ∧ Hid (Beside b w wr)) (fun _ i _ _ => (intOf i).toNat)
  case atStart => exact ⟨m, [], rfl, by simp; omega, (fun f hf => by cases hf), ho1, hc1, hbs1⟩
  case round =>
    clear ho1 hc1 hbs1 hb1
    obtain ⟨k, l, rfl, hlk, hsm, hown, hcur, hbes⟩ := hrel
    by_cases hk : 0 < k
    · have hbr : b < wr.heap.size := hcur.out.2.2.1
      have hwr : w.heap.size ≤ wr.heap.size := hbes.out.2.2.2.1
      obtain ⟨ua, uc, rfl, _⟩ := hown.out.form
      go_wp2_with fail
      refine (l1Below b sa sl sc 8 (by decide) (by decide) _ (hcur.out.more9 _)).mono ?_
      rintro e w2 ⟨y, rfl, hy0, hy1, hc2, hb2⟩
      obtain ⟨y, rfl⟩ := Int.eq_ofNat_of_zero_le hy0
      have hs2 : wr.heap.size + 1 ≤ w2.heap.size := by have := hb2.2.2.2.1; simpa using this
      have HN : Hid (∀ j, (Value.slice ua l.length uc).ownBlock = some j → j ≠ w2.heap.size) := fun j hj e => by have := hown.out.under j hj; omega
      have HC : Hid (∀ (j : Nat) (s : ByteArray), (wr.alloc (.cells #[.string ⟨#[99, 97, 99, 104, 101, 45, 99, 111, 110, 116, 114, 111, 108]⟩, .string ⟨#[101, 116, 97, 103]⟩, .string ⟨#[100, 97, 116, 101]⟩, .string ⟨#[101, 120, 112, 105, 114, 101, 115]⟩, .string ⟨#[97, 103, 101]⟩, .string ⟨#[118, 97, 114, 121]⟩, .string ⟨#[115, 117, 114, 114, 111, 103, 97, 116, 101, 45, 107, 101, 121]⟩, .string ⟨#[99, 97, 99, 104, 101, 45, 99, 111, 110, 116, 114, 111, 108]⟩] 9)).cell? ⟨wr.heap.size, j, Option.none⟩ = some (.string s) → w2.cell? ⟨wr.heap.size, j, Option.none⟩ = some (.string s)) := fun j s h => besideCell hb2 (by omega) h
      have O2 : Hid (OwnsF w2 w.heap.size (.slice ua l.length uc) l) := (hown.out.alloc _).beside10 hb2 hbz
      have B2 : Hid (Beside b w w2) := (hbes.out.more9 _).trans hb2
      have C2 : Hid (Cur w2 b sa sl sc) := hc2
      have hb2z : b < w2.heap.size := hc2.2.2.1
      clear hb2 hc2 hcur hbes hown
      rcases (show y = 0 ∨ y = 1 ∨ y = 2 ∨ y = 3 ∨ y = 4 ∨ y = 5 ∨ y = 6 ∨ y = 7 by omega) with rfl | rfl | rfl | rfl | rfl | rfl | rfl | rfl
      · have hcell := HC.out 0 ⟨#[99, 97, 99, 104, 101, 45, 99, 111, 110, 116, 114, 111, 108]⟩ (World.cell?_alloc_mark _ _ _ _ _)
        have O3 : Hid (OwnsF (w2.alloc (.cells #[.string ⟨#[99, 97, 99, 104, 101, 45, 99, 111, 110, 116, 114, 111, 108]⟩, .string ⟨#[]⟩] 105)) w.heap.size (.slice ua l.length uc) l) := O2.out.alloc _
        have B3 : Hid (Beside b w (w2.alloc (.cells #[.string ⟨#[99, 97, 99, 104, 101, 45, 99, 111, 110, 116, 114, 111, 108]⟩, .string ⟨#[]⟩] 105))) := B2.out.more9 _
        have C3 : Hid (Cur (w2.alloc (.cells #[.string ⟨#[99, 97, 99, 104, 101, 45, 99, 111, 110, 116, 114, 111, 108]⟩, .string ⟨#[]⟩] 105)) b sa sl sc) := C2.out.more9 _
        have f0 : Hid ((w2.alloc (.cells #[.string ⟨#[99, 97, 99, 104, 101, 45, 99, 111, 110, 116, 114, 111, 108]⟩, .string ⟨#[]⟩] 105)).cell? ⟨w2.heap.size, 0, Option.none⟩ = some (.string ⟨#[99, 97, 99, 104, 101, 45, 99, 111, 110, 116, 114, 111, 108]⟩)) := World.cell?_alloc_mark _ _ _ _ _
        have f1 : Hid ((w2.alloc (.cells #[.string ⟨#[99, 97, 99, 104, 101, 45, 99, 111, 110, 116, 114, 111, 108]⟩, .string ⟨#[]⟩] 105)).cell? ⟨w2.heap.size, 1, Option.none⟩ = some (.string ⟨#[]⟩)) := World.cell?_alloc_mark _ _ _ _ _
        have ff : Hid ((w2.alloc (.cells #[.string ⟨#[99, 97, 99, 104, 101, 45, 99, 111, 110, 116, 114, 111, 108]⟩, .string ⟨#[]⟩] 105)).frozen? ⟨w2.heap.size, 1, Option.none⟩ = false) := by show _ = _; rw [World.frozen?_alloc_mark]; simp
        have hs3 : Hid ((w2.alloc (.cells #[.string ⟨#[99, 97, 99, 104, 101, 45, 99, 111, 110, 116, 114, 111, 108]⟩, .string ⟨#[]⟩] 105)).heap.size = w2.heap.size + 1) := by show _ = _; simp
        clear O2 B2 C2
        go_wp2_with fail
        refine (l9DrawText b sa sl sc _ C3.out).mono ?_
        rintro e w4 ⟨⟨s, rfl, hs⟩, hc4, hb4⟩
        have O4 : Hid (OwnsF w4 w.heap.size (.slice ua l.length uc) l) := O3.out.beside10 hb4 hbz
        have B4 : Hid (Beside b w w4) := B3.out.trans hb4
        have C4 : Hid (Cur w4 b sa sl sc) := hc4
        have g0 := besideCell hb4 (by omega) f0.out
        have g1 := besideCell hb4 (by omega) f1.out
        have gf : w4.frozen? ⟨w2.heap.size, 1, Option.none⟩ = false := (World.frozen?_of_block (a := ⟨w2.heap.size, 1, Option.none⟩) (hb4.2.2.2.2 w2.heap.size (by rw [hs3.out]; omega) (by omega))).trans ff.out
        clear hb4 hc4 O3 B3 C3 f0 f1 ff hcell
        have ht := trimB_size s
        have hT := fun W => specTrim s W (by omega)
        generalize trimB s = t at ht hT
        go_wp2_with fail
        refine (hT _).mono ?_
        rintro e w5 ⟨rfl, rfl⟩
        clear hT
        have htz : t.size ≤ 84 := by omega
        have O6 : Hid (OwnsF (w4.setCell ⟨w2.heap.size, 1, Option.none⟩ (.string t)) w.heap.size (.slice ua l.length uc) l) := O4.out.but10 HN.out _
        have B6 : Hid (Beside b w (w4.setCell ⟨w2.heap.size, 1, Option.none⟩ (.string t))) := B4.out.set10 (by omega) _
        have C6 : Hid (Cur (w4.setCell ⟨w2.heap.size, 1, Option.none⟩ (.string t)) b sa sl sc) := C4.out.kept (below_set10 _ _ _ _) hb2z
        have h0 : (w4.setCell ⟨w2.heap.size, 1, Option.none⟩ (.string t)).cell? ⟨w2.heap.size, 0, Option.none⟩ = some (.string ⟨#[99, 97, 99, 104, 101, 45, 99, 111, 110, 116, 114, 111, 108]⟩) := by rw [World.cell?_setCell_other _ _ _ _ (by simp)]; exact g0
        have h1 : (w4.setCell ⟨w2.heap.size, 1, Option.none⟩ (.string t)).cell? ⟨w2.heap.size, 1, Option.none⟩ = some (.string t) := World.cell?_setCell_same _ _ _ g1
        clear O4 B4 C4
        go_upto_region 20 with fail
        generalize w4.setCell ⟨w2.heap.size, 1, Option.none⟩ (.string t) = w6 at O6 B6 C6 h0 h1 ⊢
        go_wp2_with (at_builtin; refine wpList_pushF _ rfl (.tmp 58) (.tmp 60) rfl w.heap.size _ _ (⟨#[99, 97, 99, 104, 101, 45, 99, 111, 110, 116, 114, 111, 108]⟩, t) rfl O6.out rfl (by omega) B6.out.2.2.2.1 ?_; intro v7 w7 ho7 hg7)
        have O7 : Hid (OwnsF w7 w.heap.size v7 (l ++ [(⟨#[99, 97, 99, 104, 101, 45, 99, 111, 110, 116, 114, 111, 108]⟩, t)])) := ho7
        have B7 : Hid (Beside b w w7) := B6.out.grown10 hg7 (OwnsF.from O6.out)
        have C7 : Hid (Cur w7 b sa sl sc) := C6.out.kept (grown_low10 hg7 (OwnsF.from O6.out) B6.out.2.2.2.1) hbz
        have S7 : Hid (∀ f ∈ l ++ [(⟨#[99, 97, 99, 104, 101, 45, 99, 111, 110, 116, 114, 111, 108]⟩, t)], f.1.size ≤ 13 ∧ f.2.size ≤ 84) := fun g hg => by
          rcases List.mem_append.1 hg with hg | hg
          · exact hsm.out g hg
          · rw [List.mem_singleton.1 hg]; exact ⟨by show (⟨#[99, 97, 99, 104, 101, 45, 99, 111, 110, 116, 114, 111, 108]⟩ : ByteArray).size ≤ 13; decide, htz⟩
        clear ho7 hg7 O6 B6 C6 hsm h0 h1
        go_roundw
        case rel => exact ⟨k - 1, l ++ [(⟨#[99, 97, 99, 104, 101, 45, 99, 111, 110, 116, 114, 111, 108]⟩, t)], by go_num, by simp; omega, S7, O7, C7, B7⟩
        case measure => simp [intOf]; omega
      · have hcell := HC.out 1 ⟨#[101, 116, 97, 103]⟩ (World.cell?_alloc_mark _ _ _ _ _)
        have O3 : Hid (OwnsF (w2.alloc (.cells #[.string ⟨#[101, 116, 97, 103]⟩, .string ⟨#[]⟩] 105)) w.heap.size (.slice ua l.length uc) l) := O2.out.alloc _
        have B3 : Hid (Beside b w (w2.alloc (.cells #[.string ⟨#[101, 116, 97, 103]⟩, .string ⟨#[]⟩] 105))) := B2.out.more9 _
        have C3 : Hid (Cur (w2.alloc (.cells #[.string ⟨#[101, 116, 97, 103]⟩, .string ⟨#[]⟩] 105)) b sa sl sc) := C2.out.more9 _
        have f0 : Hid ((w2.alloc (.cells #[.string ⟨#[101, 116, 97, 103]⟩, .string ⟨#[]⟩] 105)).cell? ⟨w2.heap.size, 0, Option.none⟩ = some (.string ⟨#[101, 116, 97, 103]⟩)) := World.cell?_alloc_mark _ _ _ _ _
        have f1 : Hid ((w2.alloc (.cells #[.string ⟨#[101, 116, 97, 103]⟩, .string ⟨#[]⟩] 105)).cell? ⟨w2.heap.size, 1, Option.none⟩ = some (.string ⟨#[]⟩)) := World.cell?_alloc_mark _ _ _ _ _
        have ff : Hid ((w2.alloc (.cells #[.string ⟨#[101, 116, 97, 103]⟩, .string ⟨#[]⟩] 105)).frozen? ⟨w2.heap.size, 1, Option.none⟩ = false) := by show _ = _; rw [World.frozen?_alloc_mark]; simp
        have hs3 : Hid ((w2.alloc (.cells #[.string ⟨#[101, 116, 97, 103]⟩, .string ⟨#[]⟩] 105)).heap.size = w2.heap.size + 1) := by show _ = _; simp
        have O2x := O2
        have B2x := B2
        have C2x := C2
        clear O2 B2 C2
        have O4 := O3
        have B4 := B3
        have C4 := C3
        have g0 := f0.out
        have g1 := f1.out
        have gf := ff.out
        clear O3 B3 C3 f0 f1 ff
        have htz : (⟨#[34, 97, 34]⟩ : ByteArray).size ≤ 84 := by decide
        have O6 : Hid (OwnsF (w2.alloc (.cells #[.string ⟨#[101, 116, 97, 103]⟩, .string ⟨#[34, 97, 34]⟩] 105)) w.heap.size (.slice ua l.length uc) l) := O2x.out.alloc _
        have B6 : Hid (Beside b w (w2.alloc (.cells #[.string ⟨#[101, 116, 97, 103]⟩, .string ⟨#[34, 97, 34]⟩] 105))) := B2x.out.more9 _
        have C6 : Hid (Cur (w2.alloc (.cells #[.string ⟨#[101, 116, 97, 103]⟩, .string ⟨#[34, 97, 34]⟩] 105)) b sa sl sc) := C2x.out.more9 _
        have h0 : (w2.alloc (.cells #[.string ⟨#[101, 116, 97, 103]⟩, .string ⟨#[34, 97, 34]⟩] 105)).cell? ⟨w2.heap.size, 0, Option.none⟩ = some (.string ⟨#[101, 116, 97, 103]⟩) := World.cell?_alloc_mark _ _ _ _ _
        have h1 : (w2.alloc (.cells #[.string ⟨#[101, 116, 97, 103]⟩, .string ⟨#[34, 97, 34]⟩] 105)).cell? ⟨w2.heap.size, 1, Option.none⟩ = some (.string ⟨#[34, 97, 34]⟩) := World.cell?_alloc_mark _ _ _ _ _
        clear O4 B4 C4
        go_upto_region 20 with fail
        generalize w2.alloc (.cells #[.string ⟨#[101, 116, 97, 103]⟩, .string ⟨#[34, 97, 34]⟩] 105) = w6 at O6 B6 C6 h0 h1 ⊢
        go_wp2_with (at_builtin; refine wpList_pushF _ rfl (.tmp 58) (.tmp 60) rfl w.heap.size _ _ (⟨#[101, 116, 97, 103]⟩, ⟨#[34, 97, 34]⟩) rfl O6.out rfl (by omega) B6.out.2.2.2.1 ?_; intro v7 w7 ho7 hg7)
        have O7 : Hid (OwnsF w7 w.heap.size v7 (l ++ [(⟨#[101, 116, 97, 103]⟩, ⟨#[34, 97, 34]⟩)])) := ho7
        have B7 : Hid (Beside b w w7) := B6.out.grown10 hg7 (OwnsF.from O6.out)
        have C7 : Hid (Cur w7 b sa sl sc) := C6.out.kept (grown_low10 hg7 (OwnsF.from O6.out) B6.out.2.2.2.1) hbz
        have S7 : Hid (∀ f ∈ l ++ [(⟨#[101, 116, 97, 103]⟩, ⟨#[34, 97, 34]⟩)], f.1.size ≤ 13 ∧ f.2.size ≤ 84) := fun g hg => by
          rcases List.mem_append.1 hg with hg | hg
          · exact hsm.out g hg
          · rw [List.mem_singleton.1 hg]; exact ⟨by show (⟨#[101, 116, 97, 103]⟩ : ByteArray).size ≤ 13; decide, htz⟩
        clear ho7 hg7 O6 B6 C6 hsm h0 h1
        go_roundw
        case rel => exact ⟨k - 1, l ++ [(⟨#[101, 116, 97, 103]⟩, ⟨#[34, 97, 34]⟩)], by go_num, by simp; omega, S7, O7, C7, B7⟩
        case measure => simp [intOf]; omega
      · have hcell := HC.out 2 ⟨#[100, 97, 116, 101]⟩ (World.cell?_alloc_mark _ _ _ _ _)
        have O3 : Hid (OwnsF (w2.alloc (.cells #[.string ⟨#[100, 97, 116, 101]⟩, .string ⟨#[]⟩] 105)) w.heap.size (.slice ua l.length uc) l) := O2.out.alloc _
        have B3 : Hid (Beside b w (w2.alloc (.cells #[.string ⟨#[100, 97, 116, 101]⟩, .string ⟨#[]⟩] 105))) := B2.out.more9 _
        have C3 : Hid (Cur (w2.alloc (.cells #[.string ⟨#[100, 97, 116, 101]⟩, .string ⟨#[]⟩] 105)) b sa sl sc) := C2.out.more9 _
        have f0 : Hid ((w2.alloc (.cells #[.string ⟨#[100, 97, 116, 101]⟩, .string ⟨#[]⟩] 105)).cell? ⟨w2.heap.size, 0, Option.none⟩ = some (.string ⟨#[100, 97, 116, 101]⟩)) := World.cell?_alloc_mark _ _ _ _ _
        have f1 : Hid ((w2.alloc (.cells #[.string ⟨#[100, 97, 116, 101]⟩, .string ⟨#[]⟩] 105)).cell? ⟨w2.heap.size, 1, Option.none⟩ = some (.string ⟨#[]⟩)) := World.cell?_alloc_mark _ _ _ _ _
        have ff : Hid ((w2.alloc (.cells #[.string ⟨#[100, 97, 116, 101]⟩, .string ⟨#[]⟩] 105)).frozen? ⟨w2.heap.size, 1, Option.none⟩ = false) := by show _ = _; rw [World.frozen?_alloc_mark]; simp
        have hs3 : Hid ((w2.alloc (.cells #[.string ⟨#[100, 97, 116, 101]⟩, .string ⟨#[]⟩] 105)).heap.size = w2.heap.size + 1) := by show _ = _; simp
        clear O2 B2 C2
        go_wp2_with fail
        refine (l10DrawDate b sa sl sc _ C3.out).mono ?_
        rintro e w4 ⟨⟨t, rfl, hs⟩, hc4, hb4⟩
        have O4 : Hid (OwnsF w4 w.heap.size (.slice ua l.length uc) l) := O3.out.beside10 hb4 hbz
        have B4 : Hid (Beside b w w4) := B3.out.trans hb4
        have C4 : Hid (Cur w4 b sa sl sc) := hc4
        have g0 := besideCell hb4 (by omega) f0.out
        have g1 := besideCell hb4 (by omega) f1.out
        have gf : w4.frozen? ⟨w2.heap.size, 1, Option.none⟩ = false := (World.frozen?_of_block (a := ⟨w2.heap.size, 1, Option.none⟩) (hb4.2.2.2.2 w2.heap.size (by rw [hs3.out]; omega) (by omega))).trans ff.out
        clear hb4 hc4 O3 B3 C3 f0 f1 ff hcell
        have htz : t.size ≤ 84 := by omega
        have O6 : Hid (OwnsF (w4.setCell ⟨w2.heap.size, 1, Option.none⟩ (.string t)) w.heap.size (.slice ua l.length uc) l) := O4.out.but10 HN.out _
        have B6 : Hid (Beside b w (w4.setCell ⟨w2.heap.size, 1, Option.none⟩ (.string t))) := B4.out.set10 (by omega) _
        have C6 : Hid (Cur (w4.setCell ⟨w2.heap.size, 1, Option.none⟩ (.string t)) b sa sl sc) := C4.out.kept (below_set10 _ _ _ _) hb2z
        have h0 : (w4.setCell ⟨w2.heap.size, 1, Option.none⟩ (.string t)).cell? ⟨w2.heap.size, 0, Option.none⟩ = some (.string ⟨#[100, 97, 116, 101]⟩) := by rw [World.cell?_setCell_other _ _ _ _ (by simp)]; exact g0
        have h1 : (w4.setCell ⟨w2.heap.size, 1, Option.none⟩ (.string t)).cell? ⟨w2.heap.size, 1, Option.none⟩ = some (.string t) := World.cell?_setCell_same _ _ _ g1
        clear O4 B4 C4
        go_upto_region 20 with fail
        generalize w4.setCell ⟨w2.heap.size, 1, Option.none⟩ (.string t) = w6 at O6 B6 C6 h0 h1 ⊢
        go_wp2_with (at_builtin; refine wpList_pushF _ rfl (.tmp 58) (.tmp 60) rfl w.heap.size _ _ (⟨#[100, 97, 116, 101]⟩, t) rfl O6.out rfl (by omega) B6.out.2.2.2.1 ?_; intro v7 w7 ho7 hg7)
        have O7 : Hid (OwnsF w7 w.heap.size v7 (l ++ [(⟨#[100, 97, 116, 101]⟩, t)])) := ho7
        have B7 : Hid (Beside b w w7) := B6.out.grown10 hg7 (OwnsF.from O6.out)
        have C7 : Hid (Cur w7 b sa sl sc) := C6.out.kept (grown_low10 hg7 (OwnsF.from O6.out) B6.out.2.2.2.1) hbz
        have S7 : Hid (∀ f ∈ l ++ [(⟨#[100, 97, 116, 101]⟩, t)], f.1.size ≤ 13 ∧ f.2.size ≤ 84) := fun g hg => by
          rcases List.mem_append.1 hg with hg | hg
          · exact hsm.out g hg
          · rw [List.mem_singleton.1 hg]; exact ⟨by show (⟨#[100, 97, 116, 101]⟩ : ByteArray).size ≤ 13; decide, htz⟩
        clear ho7 hg7 O6 B6 C6 hsm h0 h1
        go_roundw
        case rel => exact ⟨k - 1, l ++ [(⟨#[100, 97, 116, 101]⟩, t)], by go_num, by simp; omega, S7, O7, C7, B7⟩
        case measure => simp [intOf]; omega
      · have hcell := HC.out 3 ⟨#[101, 120, 112, 105, 114, 101, 115]⟩ (World.cell?_alloc_mark _ _ _ _ _)
        have O3 : Hid (OwnsF (w2.alloc (.cells #[.string ⟨#[101, 120, 112, 105, 114, 101, 115]⟩, .string ⟨#[]⟩] 105)) w.heap.size (.slice ua l.length uc) l) := O2.out.alloc _
        have B3 : Hid (Beside b w (w2.alloc (.cells #[.string ⟨#[101, 120, 112, 105, 114, 101, 115]⟩, .string ⟨#[]⟩] 105))) := B2.out.more9 _
        have C3 : Hid (Cur (w2.alloc (.cells #[.string ⟨#[101, 120, 112, 105, 114, 101, 115]⟩, .string ⟨#[]⟩] 105)) b sa sl sc) := C2.out.more9 _
        have f0 : Hid ((w2.alloc (.cells #[.string ⟨#[101, 120, 112, 105, 114, 101, 115]⟩, .string ⟨#[]⟩] 105)).cell? ⟨w2.heap.size, 0, Option.none⟩ = some (.string ⟨#[101, 120, 112, 105, 114, 101, 115]⟩)) := World.cell?_alloc_mark _ _ _ _ _
        have f1 : Hid ((w2.alloc (.cells #[.string ⟨#[101, 120, 112, 105, 114, 101, 115]⟩, .string ⟨#[]⟩] 105)).cell? ⟨w2.heap.size, 1, Option.none⟩ = some (.string ⟨#[]⟩)) := World.cell?_alloc_mark _ _ _ _ _
        have ff : Hid ((w2.alloc (.cells #[.string ⟨#[101, 120, 112, 105, 114, 101, 115]⟩, .string ⟨#[]⟩] 105)).frozen? ⟨w2.heap.size, 1, Option.none⟩ = false) := by show _ = _; rw [World.frozen?_alloc_mark]; simp
        have hs3 : Hid ((w2.alloc (.cells #[.string ⟨#[101, 120, 112, 105, 114, 101, 115]⟩, .string ⟨#[]⟩] 105)).heap.size = w2.heap.size + 1) := by show _ = _; simp
        clear O2 B2 C2
        go_wp2_with fail
        refine (l10DrawDate b sa sl sc _ C3.out).mono ?_
        rintro e w4 ⟨⟨t, rfl, hs⟩, hc4, hb4⟩
        have O4 : Hid (OwnsF w4 w.heap.size (.slice ua l.length uc) l) := O3.out.beside10 hb4 hbz
        have B4 : Hid (Beside b w w4) := B3.out.trans hb4
        have C4 : Hid (Cur w4 b sa sl sc) := hc4
        have g0 := besideCell hb4 (by omega) f0.out
        have g1 := besideCell hb4 (by omega) f1.out
        have gf : w4.frozen? ⟨w2.heap.size, 1, Option.none⟩ = false := (World.frozen?_of_block (a := ⟨w2.heap.size, 1, Option.none⟩) (hb4.2.2.2.2 w2.heap.size (by rw [hs3.out]; omega) (by omega))).trans ff.out
        clear hb4 hc4 O3 B3 C3 f0 f1 ff hcell
        have htz : t.size ≤ 84 := by omega
        have O6 : Hid (OwnsF (w4.setCell ⟨w2.heap.size, 1, Option.none⟩ (.string t)) w.heap.size (.slice ua l.length uc) l) := O4.out.but10 HN.out _
        have B6 : Hid (Beside b w (w4.setCell ⟨w2.heap.size, 1, Option.none⟩ (.string t))) := B4.out.set10 (by omega) _
        have C6 : Hid (Cur (w4.setCell ⟨w2.heap.size, 1, Option.none⟩ (.string t)) b sa sl sc) := C4.out.kept (below_set10 _ _ _ _) hb2z
        have h0 : (w4.setCell ⟨w2.heap.size, 1, Option.none⟩ (.string t)).cell? ⟨w2.heap.size, 0, Option.none⟩ = some (.string ⟨#[101, 120, 112, 105, 114, 101, 115]⟩) := by rw [World.cell?_setCell_other _ _ _ _ (by simp)]; exact g0
        have h1 : (w4.setCell ⟨w2.heap.size, 1, Option.none⟩ (.string t)).cell? ⟨w2.heap.size, 1, Option.none⟩ = some (.string t) := World.cell?_setCell_same _ _ _ g1
        clear O4 B4 C4
        go_upto_region 20 with fail
        generalize w4.setCell ⟨w2.heap.size, 1, Option.none⟩ (.string t) = w6 at O6 B6 C6 h0 h1 ⊢
        go_wp2_with (at_builtin; refine wpList_pushF _ rfl (.tmp 58) (.tmp 60) rfl w.heap.size _ _ (⟨#[101, 120, 112, 105, 114, 101, 115]⟩, t) rfl O6.out rfl (by omega) B6.out.2.2.2.1 ?_; intro v7 w7 ho7 hg7)
        have O7 : Hid (OwnsF w7 w.heap.size v7 (l ++ [(⟨#[101, 120, 112, 105, 114, 101, 115]⟩, t)])) := ho7
        have B7 : Hid (Beside b w w7) := B6.out.grown10 hg7 (OwnsF.from O6.out)
        have C7 : Hid (Cur w7 b sa sl sc) := C6.out.kept (grown_low10 hg7 (OwnsF.from O6.out) B6.out.2.2.2.1) hbz
        have S7 : Hid (∀ f ∈ l ++ [(⟨#[101, 120, 112, 105, 114, 101, 115]⟩, t)], f.1.size ≤ 13 ∧ f.2.size ≤ 84) := fun g hg => by
          rcases List.mem_append.1 hg with hg | hg
          · exact hsm.out g hg
          · rw [List.mem_singleton.1 hg]; exact ⟨by show (⟨#[101, 120, 112, 105, 114, 101, 115]⟩ : ByteArray).size ≤ 13; decide, htz⟩
        clear ho7 hg7 O6 B6 C6 hsm h0 h1
        go_roundw
        case rel => exact ⟨k - 1, l ++ [(⟨#[101, 120, 112, 105, 114, 101, 115]⟩, t)], by go_num, by simp; omega, S7, O7, C7, B7⟩
        case measure => simp [intOf]; omega
      · have hcell := HC.out 4 ⟨#[97, 103, 101]⟩ (World.cell?_alloc_mark _ _ _ _ _)
        have O3 : Hid (OwnsF (w2.alloc (.cells #[.string ⟨#[97, 103, 101]⟩, .string ⟨#[]⟩] 105)) w.heap.size (.slice ua l.length uc) l) := O2.out.alloc _
        have B3 : Hid (Beside b w (w2.alloc (.cells #[.string ⟨#[97, 103, 101]⟩, .string ⟨#[]⟩] 105))) := B2.out.more9 _
        have C3 : Hid (Cur (w2.alloc (.cells #[.string ⟨#[97, 103, 101]⟩, .string ⟨#[]⟩] 105)) b sa sl sc) := C2.out.more9 _
        have f0 : Hid ((w2.alloc (.cells #[.string ⟨#[97, 103, 101]⟩, .string ⟨#[]⟩] 105)).cell? ⟨w2.heap.size, 0, Option.none⟩ = some (.string ⟨#[97, 103, 101]⟩)) := World.cell?_alloc_mark _ _ _ _ _
        have f1 : Hid ((w2.alloc (.cells #[.string ⟨#[97, 103, 101]⟩, .string ⟨#[]⟩] 105)).cell? ⟨w2.heap.size, 1, Option.none⟩ = some (.string ⟨#[]⟩)) := World.cell?_alloc_mark _ _ _ _ _
        have ff : Hid ((w2.alloc (.cells #[.string ⟨#[97, 103, 101]⟩, .string ⟨#[]⟩] 105)).frozen? ⟨w2.heap.size, 1, Option.none⟩ = false) := by show _ = _; rw [World.frozen?_alloc_mark]; simp
        have hs3 : Hid ((w2.alloc (.cells #[.string ⟨#[97, 103, 101]⟩, .string ⟨#[]⟩] 105)).heap.size = w2.heap.size + 1) := by show _ = _; simp
        clear O2 B2 C2
        go_wp2_with fail
        refine (l1Below b sa sl sc 20 (by decide) (by decide) _ C3.out).mono ?_
        rintro e w4 ⟨x, rfl, hx0, hx1, hc4, hb4⟩
        have O4 : Hid (OwnsF w4 w.heap.size (.slice ua l.length uc) l) := O3.out.beside10 hb4 hbz
        have B4 : Hid (Beside b w w4) := B3.out.trans hb4
        have C4 : Hid (Cur w4 b sa sl sc) := hc4
        have g0 := besideCell hb4 (by omega) f0.out
        have g1 := besideCell hb4 (by omega) f1.out
        have gf : w4.frozen? ⟨w2.heap.size, 1, Option.none⟩ = false := (World.frozen?_of_block (a := ⟨w2.heap.size, 1, Option.none⟩) (hb4.2.2.2.2 w2.heap.size (by rw [hs3.out]; omega) (by omega))).trans ff.out
        clear hb4 hc4 O3 B3 C3 f0 f1 ff hcell
        obtain ⟨x, rfl⟩ := Int.eq_ofNat_of_zero_le hx0
        have ht := itoS_size (n := x) (by omega)
        have hT := fun W => specIntZ x W (by omega)
        generalize itoS x = t at ht hT
        go_wp2_with fail
        refine (hT _).mono ?_
        rintro e w5 ⟨rfl, hb5⟩
        have O5 : Hid (OwnsF w5 w.heap.size (.slice ua l.length uc) l) := O4.out.kept hb5
        have B5 : Hid (Beside b w w5) := B4.out.below hb5
        have C5 : Hid (Cur w5 b sa sl sc) := C4.out.kept hb5 C4.out.2.2.1
        have G0 := (hb5.cell (p := ⟨w2.heap.size, 0, Option.none⟩) (World.block_lt_of_cell? _ _ g0)).trans g0
        have G1 := (hb5.cell (p := ⟨w2.heap.size, 1, Option.none⟩) (World.block_lt_of_cell? _ _ g1)).trans g1
        have Gf : w5.frozen? ⟨w2.heap.size, 1, Option.none⟩ = false := (World.frozen?_of_block (a := ⟨w2.heap.size, 1, Option.none⟩) (hb5.block w2.heap.size (World.block_lt_of_cell? _ _ g0))).trans gf
        clear hb5 hT O4 B4 C4 g0 g1 gf
        have htz : t.size ≤ 84 := by omega
        obtain ⟨O4, B4, C4, g0, g1, gf⟩ := (⟨O5, B5, C5, G0, G1, Gf⟩ : Hid (OwnsF w5 w.heap.size (.slice ua l.length uc) l) ∧ Hid (Beside b w w5) ∧ Hid (Cur w5 b sa sl sc) ∧ _ ∧ _ ∧ _)
        clear O5 B5 C5 G0 G1 Gf
        have O6 : Hid (OwnsF (w5.setCell ⟨w2.heap.size, 1, Option.none⟩ (.string t)) w.heap.size (.slice ua l.length uc) l) := O4.out.but10 HN.out _
        have B6 : Hid (Beside b w (w5.setCell ⟨w2.heap.size, 1, Option.none⟩ (.string t))) := B4.out.set10 (by omega) _
        have C6 : Hid (Cur (w5.setCell ⟨w2.heap.size, 1, Option.none⟩ (.string t)) b sa sl sc) := C4.out.kept (below_set10 _ _ _ _) hb2z
        have h0 : (w5.setCell ⟨w2.heap.size, 1, Option.none⟩ (.string t)).cell? ⟨w2.heap.size, 0, Option.none⟩ = some (.string ⟨#[97, 103, 101]⟩) := by rw [World.cell?_setCell_other _ _ _ _ (by simp)]; exact g0
        have h1 : (w5.setCell ⟨w2.heap.size, 1, Option.none⟩ (.string t)).cell? ⟨w2.heap.size, 1, Option.none⟩ = some (.string t) := World.cell?_setCell_same _ _ _ g1
        clear O4 B4 C4
        go_upto_region 20 with fail
        generalize w5.setCell ⟨w2.heap.size, 1, Option.none⟩ (.string t) = w6 at O6 B6 C6 h0 h1 ⊢
        go_wp2_with (at_builtin; refine wpList_pushF _ rfl (.tmp 58) (.tmp 60) rfl w.heap.size _ _ (⟨#[97, 103, 101]⟩, t) rfl O6.out rfl (by omega) B6.out.2.2.2.1 ?_; intro v7 w7 ho7 hg7)
        have O7 : Hid (OwnsF w7 w.heap.size v7 (l ++ [(⟨#[97, 103, 101]⟩, t)])) := ho7
        have B7 : Hid (Beside b w w7) := B6.out.grown10 hg7 (OwnsF.from O6.out)
        have C7 : Hid (Cur w7 b sa sl sc) := C6.out.kept (grown_low10 hg7 (OwnsF.from O6.out) B6.out.2.2.2.1) hbz
        have S7 : Hid (∀ f ∈ l ++ [(⟨#[97, 103, 101]⟩, t)], f.1.size ≤ 13 ∧ f.2.size ≤ 84) := fun g hg => by
          rcases List.mem_append.1 hg with hg | hg
          · exact hsm.out g hg
          · rw [List.mem_singleton.1 hg]; exact ⟨by show (⟨#[97, 103, 101]⟩ : ByteArray).size ≤ 13; decide, htz⟩
        clear ho7 hg7 O6 B6 C6 hsm h0 h1
        go_roundw
        case rel => exact ⟨k - 1, l ++ [(⟨#[97, 103, 101]⟩, t)], by go_num, by simp; omega, S7, O7, C7, B7⟩
        case measure => simp [intOf]; omega
      · have hcell := HC.out 5 ⟨#[118, 97, 114, 121]⟩ (World.cell?_alloc_mark _ _ _ _ _)
        have O3 : Hid (OwnsF (w2.alloc (.cells #[.string ⟨#[118, 97, 114, 121]⟩, .string ⟨#[]⟩] 105)) w.heap.size (.slice ua l.length uc) l) := O2.out.alloc _
        have B3 : Hid (Beside b w (w2.alloc (.cells #[.string ⟨#[118, 97, 114, 121]⟩, .string ⟨#[]⟩] 105))) := B2.out.more9 _
        have C3 : Hid (Cur (w2.alloc (.cells #[.string ⟨#[118, 97, 114, 121]⟩, .string ⟨#[]⟩] 105)) b sa sl sc) := C2.out.more9 _
        have f0 : Hid ((w2.alloc (.cells #[.string ⟨#[118, 97, 114, 121]⟩, .string ⟨#[]⟩] 105)).cell? ⟨w2.heap.size, 0, Option.none⟩ = some (.string ⟨#[118, 97, 114, 121]⟩)) := World.cell?_alloc_mark _ _ _ _ _
        have f1 : Hid ((w2.alloc (.cells #[.string ⟨#[118, 97, 114, 121]⟩, .string ⟨#[]⟩] 105)).cell? ⟨w2.heap.size, 1, Option.none⟩ = some (.string ⟨#[]⟩)) := World.cell?_alloc_mark _ _ _ _ _
        have ff : Hid ((w2.alloc (.cells #[.string ⟨#[118, 97, 114, 121]⟩, .string ⟨#[]⟩] 105)).frozen? ⟨w2.heap.size, 1, Option.none⟩ = false) := by show _ = _; rw [World.frozen?_alloc_mark]; simp
        have hs3 : Hid ((w2.alloc (.cells #[.string ⟨#[118, 97, 114, 121]⟩, .string ⟨#[]⟩] 105)).heap.size = w2.heap.size + 1) := by show _ = _; simp
        clear O2 B2 C2
        go_wp2_with fail
        refine (l1Below b sa sl sc 3 (by decide) (by decide) _ (C3.out.more9 _)).mono ?_
        rintro e w4 ⟨x, rfl, hx0, hx1, hc4, hb4'⟩
        obtain ⟨x, rfl⟩ := Int.eq_ofNat_of_zero_le hx0
        obtain ⟨t, htc, htz'⟩ := tabT9 10 hb4' (by simp <;> omega) x (by simp; omega) (by decide)
        rw [hs3.out] at htc
        have O4 : Hid (OwnsF w4 w.heap.size (.slice ua l.length uc) l) := (O3.out.alloc _).beside10 hb4' hbz
        have B4 : Hid (Beside b w w4) := (B3.out.more9 _).trans hb4'
        have C4 : Hid (Cur w4 b sa sl sc) := hc4
        have g0 := besideCell hb4' (by omega) ((((Below.refl _ _).alloc (Nat.le_refl _) _).cell (p := ⟨w2.heap.size, 0, Option.none⟩) (by rw [hs3.out]; show w2.heap.size < _; omega)).trans f0.out)
        have g1 := besideCell hb4' (by omega) ((((Below.refl _ _).alloc (Nat.le_refl _) _).cell (p := ⟨w2.heap.size, 1, Option.none⟩) (by rw [hs3.out]; show w2.heap.size < _; omega)).trans f1.out)
        have gf : w4.frozen? ⟨w2.heap.size, 1, Option.none⟩ = false := (World.frozen?_of_block (a := ⟨w2.heap.size, 1, Option.none⟩) ((hb4'.2.2.2.2 w2.heap.size (by simp <;> omega) (by omega)).trans (((Below.refl _ _).alloc (Nat.le_refl _) _).block w2.heap.size (by rw [hs3.out]; omega)))).trans ff.out
        clear hb4' hc4 O3 B3 C3 f0 f1 ff hcell
        have htz : t.size ≤ 84 := by omega
        have O6 : Hid (OwnsF (w4.setCell ⟨w2.heap.size, 1, Option.none⟩ (.string t)) w.heap.size (.slice ua l.length uc) l) := O4.out.but10 HN.out _
        have B6 : Hid (Beside b w (w4.setCell ⟨w2.heap.size, 1, Option.none⟩ (.string t))) := B4.out.set10 (by omega) _
        have C6 : Hid (Cur (w4.setCell ⟨w2.heap.size, 1, Option.none⟩ (.string t)) b sa sl sc) := C4.out.kept (below_set10 _ _ _ _) hb2z
        have h0 : (w4.setCell ⟨w2.heap.size, 1, Option.none⟩ (.string t)).cell? ⟨w2.heap.size, 0, Option.none⟩ = some (.string ⟨#[118, 97, 114, 121]⟩) := by rw [World.cell?_setCell_other _ _ _ _ (by simp)]; exact g0
        have h1 : (w4.setCell ⟨w2.heap.size, 1, Option.none⟩ (.string t)).cell? ⟨w2.heap.size, 1, Option.none⟩ = some (.string t) := World.cell?_setCell_same _ _ _ g1
        clear O4 B4 C4
        go_upto_region 20 with fail
        generalize w4.setCell ⟨w2.heap.size, 1, Option.none⟩ (.string t) = w6 at O6 B6 C6 h0 h1 ⊢
        go_wp2_with (at_builtin; refine wpList_pushF _ rfl (.tmp 58) (.tmp 60) rfl w.heap.size _ _ (⟨#[118, 97, 114, 121]⟩, t) rfl O6.out rfl (by omega) B6.out.2.2.2.1 ?_; intro v7 w7 ho7 hg7)
        have O7 : Hid (OwnsF w7 w.heap.size v7 (l ++ [(⟨#[118, 97, 114, 121]⟩, t)])) := ho7
        have B7 : Hid (Beside b w w7) := B6.out.grown10 hg7 (OwnsF.from O6.out)
        have C7 : Hid (Cur w7 b sa sl sc) := C6.out.kept (grown_low10 hg7 (OwnsF.from O6.out) B6.out.2.2.2.1) hbz
        have S7 : Hid (∀ f ∈ l ++ [(⟨#[118, 97, 114, 121]⟩, t)], f.1.size ≤ 13 ∧ f.2.size ≤ 84) := fun g hg => by
          rcases List.mem_append.1 hg with hg | hg
          · exact hsm.out g hg
          · rw [List.mem_singleton.1 hg]; exact ⟨by show (⟨#[118, 97, 114, 121]⟩ : ByteArray).size ≤ 13; decide, htz⟩
        clear ho7 hg7 O6 B6 C6 hsm h0 h1
        go_roundw
        case rel => exact ⟨k - 1, l ++ [(⟨#[118, 97, 114, 121]⟩, t)], by go_num, by simp; omega, S7, O7, C7, B7⟩
        case measure => simp [intOf]; omega
      · have hcell := HC.out 6 ⟨#[115, 117, 114, 114, 111, 103, 97, 116, 101, 45, 107, 101, 121]⟩ (World.cell?_alloc_mark _ _ _ _ _)
        have O3 : Hid (OwnsF (w2.alloc (.cells #[.string ⟨#[115, 117, 114, 114, 111, 103, 97, 116, 101, 45, 107, 101, 121]⟩, .string ⟨#[]⟩] 105)) w.heap.size (.slice ua l.length uc) l) := O2.out.alloc _
        have B3 : Hid (Beside b w (w2.alloc (.cells #[.string ⟨#[115, 117, 114, 114, 111, 103, 97, 116, 101, 45, 107, 101, 121]⟩, .string ⟨#[]⟩] 105))) := B2.out.more9 _
        have C3 : Hid (Cur (w2.alloc (.cells #[.string ⟨#[115, 117, 114, 114, 111, 103, 97, 116, 101, 45, 107, 101, 121]⟩, .string ⟨#[]⟩] 105)) b sa sl sc) := C2.out.more9 _
        have f0 : Hid ((w2.alloc (.cells #[.string ⟨#[115, 117, 114, 114, 111, 103, 97, 116, 101, 45, 107, 101, 121]⟩, .string ⟨#[]⟩] 105)).cell? ⟨w2.heap.size, 0, Option.none⟩ = some (.string ⟨#[115, 117, 114, 114, 111, 103, 97, 116, 101, 45, 107, 101, 121]⟩)) := World.cell?_alloc_mark _ _ _ _ _
        have f1 : Hid ((w2.alloc (.cells #[.string ⟨#[115, 117, 114, 114, 111, 103, 97, 116, 101, 45, 107, 101, 121]⟩, .string ⟨#[]⟩] 105)).cell? ⟨w2.heap.size, 1, Option.none⟩ = some (.string ⟨#[]⟩)) := World.cell?_alloc_mark _ _ _ _ _
        have ff : Hid ((w2.alloc (.cells #[.string ⟨#[115, 117, 114, 114, 111, 103, 97, 116, 101, 45, 107, 101, 121]⟩, .string ⟨#[]⟩] 105)).frozen? ⟨w2.heap.size, 1, Option.none⟩ = false) := by show _ = _; rw [World.frozen?_alloc_mark]; simp
        have hs3 : Hid ((w2.alloc (.cells #[.string ⟨#[115, 117, 114, 114, 111, 103, 97, 116, 101, 45, 107, 101, 121]⟩, .string ⟨#[]⟩] 105)).heap.size = w2.heap.size + 1) := by show _ = _; simp
        clear O2 B2 C2
        go_wp2_with fail
        refine (l1Below b sa sl sc 3 (by decide) (by decide) _ (C3.out.more9 _)).mono ?_
        rintro e w4 ⟨x, rfl, hx0, hx1, hc4, hb4'⟩
        obtain ⟨x, rfl⟩ := Int.eq_ofNat_of_zero_le hx0
        obtain ⟨t, htc, htz'⟩ := tabT9 10 hb4' (by simp <;> omega) x (by simp; omega) (by decide)
        rw [hs3.out] at htc
        have O4 : Hid (OwnsF w4 w.heap.size (.slice ua l.length uc) l) := (O3.out.alloc _).beside10 hb4' hbz
        have B4 : Hid (Beside b w w4) := (B3.out.more9 _).trans hb4'
        have C4 : Hid (Cur w4 b sa sl sc) := hc4
        have g0 := besideCell hb4' (by omega) ((((Below.refl _ _).alloc (Nat.le_refl _) _).cell (p := ⟨w2.heap.size, 0, Option.none⟩) (by rw [hs3.out]; show w2.heap.size < _; omega)).trans f0.out)
        have g1 := besideCell hb4' (by omega) ((((Below.refl _ _).alloc (Nat.le_refl _) _).cell (p := ⟨w2.heap.size, 1, Option.none⟩) (by rw [hs3.out]; show w2.heap.size < _; omega)).trans f1.out)
        have gf : w4.frozen? ⟨w2.heap.size, 1, Option.none⟩ = false := (World.frozen?_of_block (a := ⟨w2.heap.size, 1, Option.none⟩) ((hb4'.2.2.2.2 w2.heap.size (by simp <;> omega) (by omega)).trans (((Below.refl _ _).alloc (Nat.le_refl _) _).block w2.heap.size (by rw [hs3.out]; omega)))).trans ff.out
        clear hb4' hc4 O3 B3 C3 f0 f1 ff hcell
        have htz : t.size ≤ 84 := by omega
        have O6 : Hid (OwnsF (w4.setCell ⟨w2.heap.size, 1, Option.none⟩ (.string t)) w.heap.size (.slice ua l.length uc) l) := O4.out.but10 HN.out _
        have B6 : Hid (Beside b w (w4.setCell ⟨w2.heap.size, 1, Option.none⟩ (.string t))) := B4.out.set10 (by omega) _
        have C6 : Hid (Cur (w4.setCell ⟨w2.heap.size, 1, Option.none⟩ (.string t)) b sa sl sc) := C4.out.kept (below_set10 _ _ _ _) hb2z
        have h0 : (w4.setCell ⟨w2.heap.size, 1, Option.none⟩ (.string t)).cell? ⟨w2.heap.size, 0, Option.none⟩ = some (.string ⟨#[115, 117, 114, 114, 111, 103, 97, 116, 101, 45, 107, 101, 121]⟩) := by rw [World.cell?_setCell_other _ _ _ _ (by simp)]; exact g0
        have h1 : (w4.setCell ⟨w2.heap.size, 1, Option.none⟩ (.string t)).cell? ⟨w2.heap.size, 1, Option.none⟩ = some (.string t) := World.cell?_setCell_same _ _ _ g1
        clear O4 B4 C4
        go_upto_region 20 with fail
        generalize w4.setCell ⟨w2.heap.size, 1, Option.none⟩ (.string t) = w6 at O6 B6 C6 h0 h1 ⊢
        go_wp2_with (at_builtin; refine wpList_pushF _ rfl (.tmp 58) (.tmp 60) rfl w.heap.size _ _ (⟨#[115, 117, 114, 114, 111, 103, 97, 116, 101, 45, 107, 101, 121]⟩, t) rfl O6.out rfl (by omega) B6.out.2.2.2.1 ?_; intro v7 w7 ho7 hg7)
        have O7 : Hid (OwnsF w7 w.heap.size v7 (l ++ [(⟨#[115, 117, 114, 114, 111, 103, 97, 116, 101, 45, 107, 101, 121]⟩, t)])) := ho7
        have B7 : Hid (Beside b w w7) := B6.out.grown10 hg7 (OwnsF.from O6.out)
        have C7 : Hid (Cur w7 b sa sl sc) := C6.out.kept (grown_low10 hg7 (OwnsF.from O6.out) B6.out.2.2.2.1) hbz
        have S7 : Hid (∀ f ∈ l ++ [(⟨#[115, 117, 114, 114, 111, 103, 97, 116, 101, 45, 107, 101, 121]⟩, t)], f.1.size ≤ 13 ∧ f.2.size ≤ 84) := fun g hg => by
          rcases List.mem_append.1 hg with hg | hg
          · exact hsm.out g hg
          · rw [List.mem_singleton.1 hg]; exact ⟨by show (⟨#[115, 117, 114, 114, 111, 103, 97, 116, 101, 45, 107, 101, 121]⟩ : ByteArray).size ≤ 13; decide, htz⟩
        clear ho7 hg7 O6 B6 C6 hsm h0 h1
        go_roundw
        case rel => exact ⟨k - 1, l ++ [(⟨#[115, 117, 114, 114, 111, 103, 97, 116, 101, 45, 107, 101, 121]⟩, t)], by go_num, by simp; omega, S7, O7, C7, B7⟩
        case measure => simp [intOf]; omega
      · have hcell := HC.out 7 ⟨#[99, 97, 99, 104, 101, 45, 99, 111, 110, 116, 114, 111, 108]⟩ (World.cell?_alloc_mark _ _ _ _ _)
        have O3 : Hid (OwnsF (w2.alloc (.cells #[.string ⟨#[99, 97, 99, 104, 101, 45, 99, 111, 110, 116, 114, 111, 108]⟩, .string ⟨#[]⟩] 105)) w.heap.size (.slice ua l.length uc) l) := O2.out.alloc _
        have B3 : Hid (Beside b w (w2.alloc (.cells #[.string ⟨#[99, 97, 99, 104, 101, 45, 99, 111, 110, 116, 114, 111, 108]⟩, .string ⟨#[]⟩] 105))) := B2.out.more9 _
        have C3 : Hid (Cur (w2.alloc (.cells #[.string ⟨#[99, 97, 99, 104, 101, 45, 99, 111, 110, 116, 114, 111, 108]⟩, .string ⟨#[]⟩] 105)) b sa sl sc) := C2.out.more9 _
        have f0 : Hid ((w2.alloc (.cells #[.string ⟨#[99, 97, 99, 104, 101, 45, 99, 111, 110, 116, 114, 111, 108]⟩, .string ⟨#[]⟩] 105)).cell? ⟨w2.heap.size, 0, Option.none⟩ = some (.string ⟨#[99, 97, 99, 104, 101, 45, 99, 111, 110, 116, 114, 111, 108]⟩)) := World.cell?_alloc_mark _ _ _ _ _
        have f1 : Hid ((w2.alloc (.cells #[.string ⟨#[99, 97, 99, 104, 101, 45, 99, 111, 110, 116, 114, 111, 108]⟩, .string ⟨#[]⟩] 105)).cell? ⟨w2.heap.size, 1, Option.none⟩ = some (.string ⟨#[]⟩)) := World.cell?_alloc_mark _ _ _ _ _
        have ff : Hid ((w2.alloc (.cells #[.string ⟨#[99, 97, 99, 104, 101, 45, 99, 111, 110, 116, 114, 111, 108]⟩, .string ⟨#[]⟩] 105)).frozen? ⟨w2.heap.size, 1, Option.none⟩ = false) := by show _ = _; rw [World.frozen?_alloc_mark]; simp
        have hs3 : Hid ((w2.alloc (.cells #[.string ⟨#[99, 97, 99, 104, 101, 45, 99, 111, 110, 116, 114, 111, 108]⟩, .string ⟨#[]⟩] 105)).heap.size = w2.heap.size + 1) := by show _ = _; simp
        clear O2 B2 C2
        go_wp2_with fail
        refine (l9DrawText b sa sl sc _ C3.out).mono ?_
        rintro e w4 ⟨⟨s, rfl, hs⟩, hc4, hb4⟩
        have O4 : Hid (OwnsF w4 w.heap.size (.slice ua l.length uc) l) := O3.out.beside10 hb4 hbz
        have B4 : Hid (Beside b w w4) := B3.out.trans hb4
        have C4 : Hid (Cur w4 b sa sl sc) := hc4
        have g0 := besideCell hb4 (by omega) f0.out
        have g1 := besideCell hb4 (by omega) f1.out
        have gf : w4.frozen? ⟨w2.heap.size, 1, Option.none⟩ = false := (World.frozen?_of_block (a := ⟨w2.heap.size, 1, Option.none⟩) (hb4.2.2.2.2 w2.heap.size (by rw [hs3.out]; omega) (by omega))).trans ff.out
        clear hb4 hc4 O3 B3 C3 f0 f1 ff hcell
        have ht := trimB_size s
        have hT := fun W => specTrim s W (by omega)
        generalize trimB s = t at ht hT
        go_wp2_with fail
        refine (hT _).mono ?_
        rintro e w5 ⟨rfl, rfl⟩
        clear hT
        have htz : t.size ≤ 84 := by omega
        have O6 : Hid (OwnsF (w4.setCell ⟨w2.heap.size, 1, Option.none⟩ (.string t)) w.heap.size (.slice ua l.length uc) l) := O4.out.but10 HN.out _
        have B6 : Hid (Beside b w (w4.setCell ⟨w2.heap.size, 1, Option.none⟩ (.string t))) := B4.out.set10 (by omega) _
        have C6 : Hid (Cur (w4.setCell ⟨w2.heap.size, 1, Option.none⟩ (.string t)) b sa sl sc) := C4.out.kept (below_set10 _ _ _ _) hb2z
        have h0 : (w4.setCell ⟨w2.heap.size, 1, Option.none⟩ (.string t)).cell? ⟨w2.heap.size, 0, Option.none⟩ = some (.string ⟨#[99, 97, 99, 104, 101, 45, 99, 111, 110, 116, 114, 111, 108]⟩) := by rw [World.cell?_setCell_other _ _ _ _ (by simp)]; exact g0
        have h1 : (w4.setCell ⟨w2.heap.size, 1, Option.none⟩ (.string t)).cell? ⟨w2.heap.size, 1, Option.none⟩ = some (.string t) := World.cell?_setCell_same _ _ _ g1
        clear O4 B4 C4
        go_upto_region 20 with fail
        generalize w4.setCell ⟨w2.heap.size, 1, Option.none⟩ (.string t) = w6 at O6 B6 C6 h0 h1 ⊢
        go_wp2_with (at_builtin; refine wpList_pushF _ rfl (.tmp 58) (.tmp 60) rfl w.heap.size _ _ (⟨#[99, 97, 99, 104, 101, 45, 99, 111, 110, 116, 114, 111, 108]⟩, t) rfl O6.out rfl (by omega) B6.out.2.2.2.1 ?_; intro v7 w7 ho7 hg7)
        have O7 : Hid (OwnsF w7 w.heap.size v7 (l ++ [(⟨#[99, 97, 99, 104, 101, 45, 99, 111, 110, 116, 114, 111, 108]⟩, t)])) := ho7
        have B7 : Hid (Beside b w w7) := B6.out.grown10 hg7 (OwnsF.from O6.out)
        have C7 : Hid (Cur w7 b sa sl sc) := C6.out.kept (grown_low10 hg7 (OwnsF.from O6.out) B6.out.2.2.2.1) hbz
        have S7 : Hid (∀ f ∈ l ++ [(⟨#[99, 97, 99, 104, 101, 45, 99, 111, 110, 116, 114, 111, 108]⟩, t)], f.1.size ≤ 13 ∧ f.2.size ≤ 84) := fun g hg => by
          rcases List.mem_append.1 hg with hg | hg
          · exact hsm.out g hg
          · rw [List.mem_singleton.1 hg]; exact ⟨by show (⟨#[99, 97, 99, 104, 101, 45, 99, 111, 110, 116, 114, 111, 108]⟩ : ByteArray).size ≤ 13; decide, htz⟩
        clear ho7 hg7 O6 B6 C6 hsm h0 h1
        go_roundw
        case rel => exact ⟨k - 1, l ++ [(⟨#[99, 97, 99, 104, 101, 45, 99, 111, 110, 116, 114, 111, 108]⟩, t)], by go_num, by simp; omega, S7, O7, C7, B7⟩
        case measure => simp [intOf]; omega
    · go_wp2
      go_ret
      exact ⟨⟨_, l, rfl, hown.out, by omega, hsm.out⟩, hcur.out, hbes.out⟩
end Go.Proofs.YtkaogmdhjcgcdaaGreatDoor
namespace Go.Proofs.YtkaogmdhjcgcdaaGreatDoor
open Go.RowKit Go.Sort
set_option linter.unusedVariables false
set_option linter.unusedSimpArgs false

/-- A small response of few fields. -/
def FewR (r : Rs) : Prop := FewF 3 r.l ∧ (200 ≤ r.s ∧ r.s ≤ 500) ∧ r.b.size ≤ 3
def gRs (B : Nat) (x : World) (v : Value) : Prop := ∃ r u, v = rsV r u ∧ OwnsF x B u r.l ∧ FewR r
theorem gRs.keep {b B : Nat} {x y : World} {v : Value} (h : gRs B x v) (hb : Beside b x y) (hB : b < B) : gRs B y v := by obtain ⟨r, u, h0, h1, h2⟩ := h; exact ⟨r, u, h0, h1.beside10 hb hB, h2⟩
theorem Beside.grow10 {b B : Nat} {w x y : World} (h : Beside b w x) (hb : Below B x y) (hB : w.heap.size ≤ B) : Beside b w y :=
  ⟨hb.os.trans h.1, hb.tape.trans h.2.1, hb.output.trans h.2.2.1, Nat.le_trans h.2.2.2.1 hb.size, fun k hk hne => (hb.block k (by omega)).trans (h.2.2.2.2 k hk hne)⟩
def frR (b n B : Nat) (t : Nat → Value) : Act := { tmps := #[.pointer (some ⟨b, 0, none⟩), undef, .pointer (some ⟨n, 0, none⟩), t 3, t 4, t 5, t 6, t 7, t 8, t 9, t 10, t 11, undef, undef, undef, undef, undef, undef, undef], defers := [] }
def dR (i : Nat) : Nat := if i = 0 then 4 else if i = 1 then 5 else if i = 2 then 6 else if i = 3 then 7 else if i = 4 then 8 else if i = 5 then 9 else if i = 6 then 10 else if i = 7 then 11 else if i = 8 then 3 else i + 5000
def GR (b n B : Nat) (i : Nat) (x : World) (v : Value) : Prop := match i with
  | 0 => gTabI b [200, 200, 404, 204, 500] x v
  | 1 => v = .pointer (some ⟨b, 0, none⟩)
  | 2 => gNum 5 v
  | 3 => gPtI b [200, 200, 404, 204, 500] x v
  | 4 => gInt (200) (500) v
  | 5 => v = .pointer (some ⟨b, 0, none⟩)
  | 6 => gFl B 3 x v
  | 7 => gRs B x v
  | 8 => gBox b B #[.int .i64 0, .slice none 0 0, .string ⟨#[]⟩] 26 x v
  | _ => True
theorem GR.keep (b n B : Nat) {x y : World} (hb : Beside b x y) (hB : b < B) (j : Nat) (v : Value) (hj : j < 9) (h : GR b n B j x v) : GR b n B j y v := by
  rcases (show j = 0 ∨ j = 1 ∨ j = 2 ∨ j = 3 ∨ j = 4 ∨ j = 5 ∨ j = 6 ∨ j = 7 ∨ j = 8 by omega) with rfl | rfl | rfl | rfl | rfl | rfl | rfl | rfl | rfl
  · exact gTabI.keep h hb
  · exact h
  · exact h
  · exact gPtI.keep h hb
  · exact h
  · exact h
  · exact gFl.keep h hb hB
  · exact gRs.keep h hb hB
  · exact gBox.keep h hb
theorem dR_ne {i j : Nat} (hi : i < 9) (hj : j < 9) (h : j ≠ i) : dR j ≠ dR i := by
  rcases (show i = 0 ∨ i = 1 ∨ i = 2 ∨ i = 3 ∨ i = 4 ∨ i = 5 ∨ i = 6 ∨ i = 7 ∨ i = 8 by omega) with rfl | rfl | rfl | rfl | rfl | rfl | rfl | rfl | rfl <;> rcases (show j = 0 ∨ j = 1 ∨ j = 2 ∨ j = 3 ∨ j = 4 ∨ j = 5 ∨ j = 6 ∨ j = 7 ∨ j = 8 by omega) with rfl | rfl | rfl | rfl | rfl | rfl | rfl | rfl | rfl <;> first | (exact absurd rfl h) | decide
set_option maxRecDepth 100000 in
set_option maxHeartbeats 8000000 in
theorem l10DrawR (b : Nat) (sa : Option Addr) (sl sc : Nat) (w : World) (hc : Cur w b sa sl sc) :
    Calls Tryz.prog 67 #[.pointer (some ⟨b, 0, none⟩)] w fun e w' => (∃ v, e = .returned v ∧ gRs w.heap.size w' v) ∧ Cur w' b sa sl sc ∧ Beside b w w' := by
  have hbz : b < w.heap.size := hc.2.2.1
  obtain ⟨B, hB⟩ : ∃ B, B = w.heap.size + 1 := ⟨_, rfl⟩
  have hBb : b < B := by omega
  have hBx : ∀ x, SCur b sa sl sc (w.alloc (.cells #[.int .i64 0, .slice none 0 0, .string ⟨#[]⟩] 26)) x → B ≤ x.heap.size := fun x h => by have := h.size; simp at this; omega
  have hS0 : SCur b sa sl sc (w.alloc (.cells #[.int .i64 0, .slice none 0 0, .string ⟨#[]⟩] 26)) (w.alloc (.cells #[.int .i64 0, .slice none 0 0, .string ⟨#[]⟩] 26)).drew := ⟨(hc.more9 _), ⟨rfl, rfl, rfl, Nat.le_refl _, fun _ _ _ => rfl⟩⟩
  go_enter Tryz.func67, Tryz.ntmps67
  go_wp2
  refine region_heads 9 mixed (by decide) (by kernel_rfl) (by kernel_rfl) (by kernel_rfl) (by kernel_rfl) (frR b w.heap.size B) dR (SCur b sa sl sc (w.alloc (.cells #[.int .i64 0, .slice none 0 0, .string ⟨#[]⟩] 26))) (GR b w.heap.size B) (fun i j hi hj h => dR_ne hi hj h) ?put (fun _ => undef) rfl ?hS ?step ?done
  case put =>
    intro i o hi ho t v
    rcases (show i = 0 ∨ i = 1 ∨ i = 2 ∨ i = 3 ∨ i = 4 ∨ i = 5 ∨ i = 6 ∨ i = 7 ∨ i = 8 by omega) with rfl | rfl | rfl | rfl | rfl | rfl | rfl | rfl | rfl
    all_goals
      obtain rfl := Option.some.inj ho
      rfl
  case step =>
    intro i o hi ho t x hS hdep K hK
    rcases (show i = 0 ∨ i = 1 ∨ i = 2 ∨ i = 3 ∨ i = 4 ∨ i = 5 ∨ i = 6 ∨ i = 7 ∨ i = 8 by omega) with rfl | rfl | rfl | rfl | rfl | rfl | rfl | rfl | rfl
    all_goals obtain rfl := Option.some.inj ho
    · have HK : Hid (K ((frR b w.heap.size B t).put (some 4) (.slice (some ⟨x.heap.size, 0, none⟩) 5 5)) (x.alloc (.cells (List.map (Value.int .i64) [200, 200, 404, 204, 500]).toArray 2))) := hK _ _ (hS.more _) (fun j u hj hne h => GR.keep b w.heap.size B (besAlloc b x _) hBb j u hj h) ⟨x.heap.size, rfl, newAt x _, (by have := hS.lt; omega)⟩
      unfold frR
      go_simp
      exact HK.out
    · have HK : Hid (K ((frR b w.heap.size B t).put (some 5) (.pointer (some ⟨b, 0, none⟩))) x) := hK _ _ hS (fun j u hj hne h => h) rfl
      unfold frR
      go_simp
      exact HK.out
    · have e : t 5 = .pointer (some ⟨b, 0, none⟩) := hdep { on := 1, ground := Ground.data } (by simp) rfl
      exact step_below rfl 5 (by decide) (by decide) (.tmp 5) _ rfl e hS (fun v y k1 k2 k3 => hK v y k1 (fun j u hj hne h => GR.keep b w.heap.size B k2 hBb j u hj h) k3)
    · have ga : gTabI b [200, 200, 404, 204, 500] x (t 4) := hdep { on := 0, ground := Ground.data } (by simp) rfl
      obtain ⟨g, ea, hT, hgb⟩ := ga
      have gc : gNum 5 (t 6) := hdep { on := 2, ground := Ground.data } (by simp) rfl
      obtain ⟨k, ec, hk⟩ := gc
      have hkI : (k : Int) < 5 := by omega
      have hk0 : ¬ (k : Int) < 0 := by omega
      have HK : Hid (K ((frR b w.heap.size B t).put (some 7) (.pointer (some ⟨g, k, none⟩))) x) := hK _ _ hS (fun j u hj hne h => h) ⟨g, k, rfl, hk, hT, hgb⟩
      have h2 := HK.out
      unfold frR at h2 ⊢
      go_simp
      simpa [Act.put, ea, ec, hkI] using h2
    · have ga : gPtI b [200, 200, 404, 204, 500] x (t 7) := hdep { on := 3, ground := Ground.data } (by simp) rfl
      obtain ⟨g, k, ea, hk, hT, hgb⟩ := ga
      obtain ⟨z, hz0, hz1, c0⟩ : ∃ z : Int, 200 ≤ z ∧ z ≤ 500 ∧ x.cell? ⟨g, k, none⟩ = some (.int .i64 z) := ⟨_, ((by decide : ∀ s ∈ ([200, 200, 404, 204, 500] : List Int), (200) ≤ s ∧ s ≤ 500) _ (List.getElem_mem hk)).1, ((by decide : ∀ s ∈ ([200, 200, 404, 204, 500] : List Int), (200) ≤ s ∧ s ≤ 500) _ (List.getElem_mem hk)).2, tabI_at hT hk⟩
      have HK : Hid (K ((frR b w.heap.size B t).put (some 8) (.int .i64 z)) x) := hK _ _ hS (fun j u hj hne h => h) ⟨z, rfl, hz0, hz1⟩
      have h2 := HK.out
      unfold frR at h2 ⊢
      go_simp
      simpa [Act.put, ea, c0] using h2
    · have HK : Hid (K ((frR b w.heap.size B t).put (some 9) (.pointer (some ⟨b, 0, none⟩))) x) := hK _ _ hS (fun j u hj hne h => h) rfl
      unfold frR
      go_simp
      exact HK.out
    · have e : t 9 = .pointer (some ⟨b, 0, none⟩) := hdep { on := 5, ground := Ground.data } (by simp) rfl
      exact step_draw1 rfl 74 (.tmp 9) _ rfl e hS (Go.Proofs.enters_of Tryz.func74 (by kernel_rfl) rfl) (fun x v => gFl B 3 x v) ((l10DrawFields b sa sl sc x hS.1).mono fun e y ⟨⟨u, l, h0, h1, h2⟩, h3, h4⟩ => ⟨⟨u, h0, l, h1.low (hBx x hS), h2⟩, h3, h4⟩) (fun v y k1 k2 k3 => hK v y k1 (fun j u hj hne h => GR.keep b w.heap.size B k2 hBb j u hj h) k3)
    · have ga : gInt 200 500 (t 8) := hdep { on := 4, ground := Ground.data } (by simp) rfl
      obtain ⟨z, ea, hz0, hz1⟩ := ga
      have gc : gFl B 3 x (t 10) := hdep { on := 6, ground := Ground.data } (by simp) rfl
      obtain ⟨l, ho, hl⟩ := gc
      obtain ⟨A5, cap5, ec, _⟩ := ho.form
      rw [ec] at ho
      have HK : Hid (K ((frR b w.heap.size B t).put (some 11) (.agg #[.int .i64 z, .slice A5 l.length cap5, .string ⟨#[]⟩])) x) := hK _ _ hS (fun j u hj hne h => h) ⟨⟨z, l, ⟨#[]⟩⟩, .slice A5 l.length cap5, rfl, ho, hl, ⟨hz0, hz1⟩, Nat.zero_le _⟩
      have h2 := HK.out
      unfold frR at h2 ⊢
      go_simp
      simpa [Act.put, ea, ec] using h2
    · have HK : Hid (K ((frR b w.heap.size B t).put (some 3) (.pointer (some ⟨x.heap.size, 0, none⟩))) (x.alloc (.cells #[.int .i64 0, .slice none 0 0, .string ⟨#[]⟩] 26))) := hK _ _ (hS.more _) (fun j u hj hne h => GR.keep b w.heap.size B (besAlloc b x _) hBb j u hj h) ⟨x.heap.size, rfl, newAt x _, (by have := hS.lt; omega), hBx x hS⟩
      unfold frR
      go_simp
      exact HK.out
  case hS => exact hS0
  case done =>
    intro t x hS hG
    obtain ⟨r, u, e11, ho, hr⟩ : gRs B x (t 11) := hG 7 (by decide)
    obtain ⟨g, e3, hT, hgb, hgB⟩ : gBox b B #[.int .i64 0, .slice none 0 0, .string ⟨#[]⟩] 26 x (t 3) := hG 8 (by decide)
    obtain ⟨A5, cap5, rfl, _⟩ := ho.form
    have G0 : Hid (RsB x g noS (.slice none 0 0)) := ⟨rowCell hT, rowCell hT, rowCell hT, fun k => by simp [World.frozen?, hT], (Array.getElem?_eq_some_iff.1 hT).1⟩
    have N0 : Hid (RsB x w.heap.size noS (.slice none 0 0)) := (RsB.new w noS (.slice none 0 0) 26).same (hS.2.2.2.2.2 w.heap.size (by simp) (by omega)) hS.size
    have hT1 := heap_setCell_same x g 0 _ _ (.int .i64 r.s) hT
    have o1 := ho.besides10 (k := 0) hT (by decide) (.int .i64 r.s)
    have hT2 := heap_setCell_same _ g 1 _ _ (.slice A5 r.l.length cap5) hT1
    have o2 := o1.besides10 (k := 1) hT1 (by decide) (.slice A5 r.l.length cap5)
    have hT3 := heap_setCell_same _ g 2 _ _ (.string r.b) hT2
    have o3 := o2.besides10 (k := 2) hT2 (by decide) (.string r.b)
    have hbs : Below B x (((x.setCell ⟨g, 0, none⟩ (.int .i64 r.s)).setCell ⟨g, 1, none⟩ (.slice A5 r.l.length cap5)).setCell ⟨g, 2, none⟩ (.string r.b)) := (((Below.refl B x).setCell (p := ⟨g, 0, none⟩) hgB _).setCell (p := ⟨g, 1, none⟩) hgB _).setCell (p := ⟨g, 2, none⟩) hgB _
    have G1 : Hid (RsB (((x.setCell ⟨g, 0, none⟩ (.int .i64 r.s)).setCell ⟨g, 1, none⟩ (.slice A5 r.l.length cap5)).setCell ⟨g, 2, none⟩ (.string r.b)) g r (.slice A5 r.l.length cap5)) := G0.out.puts10 r _
    have N1 : Hid (RsB (((x.setCell ⟨g, 0, none⟩ (.int .i64 r.s)).setCell ⟨g, 1, none⟩ (.slice A5 r.l.length cap5)).setCell ⟨g, 2, none⟩ (.string r.b)) w.heap.size noS (.slice none 0 0)) := N0.out.same (hbs.block _ (by omega)) hbs.size
    have O1 : Hid (OwnsF (((x.setCell ⟨g, 0, none⟩ (.int .i64 r.s)).setCell ⟨g, 1, none⟩ (.slice A5 r.l.length cap5)).setCell ⟨g, 2, none⟩ (.string r.b)) B (.slice A5 r.l.length cap5) r.l) := o3
    have C1 : Hid (Cur (((x.setCell ⟨g, 0, none⟩ (.int .i64 r.s)).setCell ⟨g, 1, none⟩ (.slice A5 r.l.length cap5)).setCell ⟨g, 2, none⟩ (.string r.b)) b sa sl sc) := hS.1.kept hbs hBb
    have T1 : Hid ((((x.setCell ⟨g, 0, none⟩ (.int .i64 r.s)).setCell ⟨g, 1, none⟩ (.slice A5 r.l.length cap5)).setCell ⟨g, 2, none⟩ (.string r.b)).heap[g]? = some (.cells #[.int .i64 r.s, .slice A5 r.l.length cap5, .string r.b] 26 (0, 0))) := hT3
    have S1 : Hid (Beside b w (((x.setCell ⟨g, 0, none⟩ (.int .i64 r.s)).setCell ⟨g, 1, none⟩ (.slice A5 r.l.length cap5)).setCell ⟨g, 2, none⟩ (.string r.b))) := (((Beside.refl b w).more9 _).trans hS.2).grow10 hbs (by omega)
    obtain ⟨g0, g1, g2, gf, gh⟩ := G0.out
    simp only [noS] at g0 g1 g2
    clear hT1 hT2 hT3 o1 o2 o3 hbs G0 N0 hT ho hS hG hc
    unfold rsV at e11
    unfold frR
    rw [e3, e11]
    clear e3 e11
    go_upto_region 2 with fail
    generalize (((x.setCell ⟨g, 0, none⟩ (.int .i64 r.s)).setCell ⟨g, 1, none⟩ (.slice A5 r.l.length cap5)).setCell ⟨g, 2, none⟩ (.string r.b)) = y at G1 N1 O1 C1 T1 S1 ⊢
    clear g0 g1 g2 gf gh
    obtain ⟨g0, g1, g2, gf, gh⟩ := G1.out
    by_cases h204 : r.s = 204
    · have d204 : (r.s == 204) = true := by simpa using h204
      clear h204
      have N2 := N1
      obtain ⟨n0, n1, n2, nf, nh⟩ := N2.out
      simp only [noS] at n0 n1 n2
      have P1 : Hid (RsB (((y.setCell ⟨w.heap.size, 0, none⟩ (.int .i64 r.s)).setCell ⟨w.heap.size, 1, none⟩ (.slice A5 r.l.length cap5)).setCell ⟨w.heap.size, 2, none⟩ (.string r.b)) w.heap.size ⟨r.s, r.l, r.b⟩ (.slice A5 r.l.length cap5)) := N2.out.puts10 ⟨r.s, r.l, r.b⟩ _
      have BP : Hid (Below w.heap.size y (((y.setCell ⟨w.heap.size, 0, none⟩ (.int .i64 r.s)).setCell ⟨w.heap.size, 1, none⟩ (.slice A5 r.l.length cap5)).setCell ⟨w.heap.size, 2, none⟩ (.string r.b))) := (((Below.refl _ y).setCell (p := ⟨w.heap.size, 0, none⟩) (Nat.le_refl _) _).setCell (p := ⟨w.heap.size, 1, none⟩) (Nat.le_refl _) _).setCell (p := ⟨w.heap.size, 2, none⟩) (Nat.le_refl _) _
      have Q1 : Hid (OwnsF (((y.setCell ⟨w.heap.size, 0, none⟩ (.int .i64 r.s)).setCell ⟨w.heap.size, 1, none⟩ (.slice A5 r.l.length cap5)).setCell ⟨w.heap.size, 2, none⟩ (.string r.b)) B (.slice A5 r.l.length cap5) r.l) := ((O1.out.putlow10 (by omega) 0 _).putlow10 (by omega) 1 _).putlow10 (by omega) 2 _
      go_wp2
      have p0 := P1.out.c0
      have p1 := P1.out.c1
      have p2 := P1.out.c2
      simp only at p0 p1 p2
      refine bodyPost_ret (v := rsV ⟨r.s, r.l, r.b⟩ (.slice A5 r.l.length cap5)) (by unfold rsV; simp [results, Tryz.results67, go_sem, p0, p1, p2]) rfl ⟨⟨_, rfl, ⟨r.s, r.l, r.b⟩, _, rfl, Q1.out.low (by omega), hr⟩, C1.out.kept BP.out hbz, S1.out.grow10 BP.out (Nat.le_refl _)⟩
    · have d204 : (r.s == 204) = false := by simpa using h204
      have hgz : g < y.heap.size := gh
      go_wp2_with fail
      refine (l1DrawText b sa sl sc ⟨#[97, 98]⟩ 3 (by decide) (by decide) (by decide) y C1.out).mono ?_
      rintro e z ⟨tt, rfl, ht, hc2, hb2⟩
      have C2 : Hid (Cur z b sa sl sc) := hc2
      have G2 : Hid (RsB z g r (.slice A5 r.l.length cap5)) := G1.out.same (hb2.2.2.2.2 g hgz hgb) hb2.2.2.2.1
      have M2 : Hid (RsB z w.heap.size noS (.slice none 0 0)) := N1.out.same (hb2.2.2.2.2 _ N1.out.hi (by omega)) hb2.2.2.2.1
      have O2 : Hid (OwnsF z B (.slice A5 r.l.length cap5) r.l) := O1.out.beside10 hb2 hBb
      have S2 : Hid (Beside b w z) := S1.out.trans hb2
      have T2 : Hid (z.heap[g]? = some (.cells #[.int .i64 r.s, .slice A5 r.l.length cap5, .string r.b] 26 (0, 0))) := besAt hb2 T1.out hgb
      clear hb2 hc2 G1 N1 O1 C1 T1 S1 g0 g1 g2 gf gh
      have hbs : Below B z (z.setCell ⟨g, 2, none⟩ (.string tt)) := (Below.refl B z).setCell (p := ⟨g, 2, none⟩) hgB _
      have G3 : Hid (RsB (z.setCell ⟨g, 2, none⟩ (.string tt)) g ⟨r.s, r.l, tt⟩ (.slice A5 r.l.length cap5)) := G2.out.put2 tt
      have N2 : Hid (RsB (z.setCell ⟨g, 2, none⟩ (.string tt)) w.heap.size noS (.slice none 0 0)) := M2.out.same (hbs.block _ (by omega)) hbs.size
      have O3 : Hid (OwnsF (z.setCell ⟨g, 2, none⟩ (.string tt)) B (.slice A5 r.l.length cap5) r.l) := O2.out.besides10 (k := 2) T2.out (by decide) _
      have C3 : Hid (Cur (z.setCell ⟨g, 2, none⟩ (.string tt)) b sa sl sc) := C2.out.kept hbs hBb
      have S3 : Hid (Beside b w (z.setCell ⟨g, 2, none⟩ (.string tt))) := S2.out.grow10 hbs (by omega)
      obtain ⟨g0, g1, g2, gf, gh⟩ := G2.out
      clear hbs M2 O2 C2 S2 T2 G2
      go_upto_region 4 with fail
      generalize z.setCell ⟨g, 2, none⟩ (.string tt) = y2 at G3 N2 O3 C3 S3 ⊢
      clear g0 g1 g2 gf gh
      obtain ⟨g0, g1, g2, gf, gh⟩ := G3.out
      simp only at g0 g1 g2
      obtain ⟨n0, n1, n2, nf, nh⟩ := N2.out
      simp only [noS] at n0 n1 n2
      have P1 : Hid (RsB (((y2.setCell ⟨w.heap.size, 0, none⟩ (.int .i64 r.s)).setCell ⟨w.heap.size, 1, none⟩ (.slice A5 r.l.length cap5)).setCell ⟨w.heap.size, 2, none⟩ (.string tt)) w.heap.size ⟨r.s, r.l, tt⟩ (.slice A5 r.l.length cap5)) := N2.out.puts10 ⟨r.s, r.l, tt⟩ _
      have BP : Hid (Below w.heap.size y2 (((y2.setCell ⟨w.heap.size, 0, none⟩ (.int .i64 r.s)).setCell ⟨w.heap.size, 1, none⟩ (.slice A5 r.l.length cap5)).setCell ⟨w.heap.size, 2, none⟩ (.string tt))) := (((Below.refl _ y2).setCell (p := ⟨w.heap.size, 0, none⟩) (Nat.le_refl _) _).setCell (p := ⟨w.heap.size, 1, none⟩) (Nat.le_refl _) _).setCell (p := ⟨w.heap.size, 2, none⟩) (Nat.le_refl _) _
      have Q1 : Hid (OwnsF (((y2.setCell ⟨w.heap.size, 0, none⟩ (.int .i64 r.s)).setCell ⟨w.heap.size, 1, none⟩ (.slice A5 r.l.length cap5)).setCell ⟨w.heap.size, 2, none⟩ (.string tt)) B (.slice A5 r.l.length cap5) r.l) := ((O3.out.putlow10 (by omega) 0 _).putlow10 (by omega) 1 _).putlow10 (by omega) 2 _
      go_wp2
      have p0 := P1.out.c0
      have p1 := P1.out.c1
      have p2 := P1.out.c2
      simp only at p0 p1 p2
      refine bodyPost_ret (v := rsV ⟨r.s, r.l, tt⟩ (.slice A5 r.l.length cap5)) (by unfold rsV; simp [results, Tryz.results67, go_sem, p0, p1, p2]) rfl ⟨⟨_, rfl, ⟨r.s, r.l, tt⟩, _, rfl, Q1.out.low (by omega), ⟨hr.1, hr.2.1, ht⟩⟩, C3.out.kept BP.out hbz, S3.out.grow10 BP.out (Nat.le_refl _)⟩
end Go.Proofs.YtkaogmdhjcgcdaaGreatDoor
namespace Go.Proofs.YtkaogmdhjcgcdaaGreatDoor
open Go.RowKit Go.Sort
set_option linter.unusedVariables false

theorem ObB.beside {w w' : World} {b c : Nat} {o : Ob} {v u : Value} (h : ObB w c o v u) (hb : Beside b w w') (hne : c ≠ b) : ObB w' c o v u := by
  have e : w'.heap[c]? = w.heap[c]? := hb.2.2.2.2 c h.hi hne
  have k : ∀ k, w'.cell? ⟨c, k, none⟩ = w.cell? ⟨c, k, none⟩ := fun k => World.cell?_of_block (a := ⟨c, k, none⟩) e
  exact ⟨(k 0).trans h.c0, (k 1).trans h.c1, (k 2).trans h.c2, (k 3).trans h.c3, (k 4).trans h.c4, (k 5).trans h.c5, (k 6).trans h.c6, (k 7).trans h.c7, fun j => (World.frozen?_of_block (a := ⟨c, j, none⟩) e).trans (h.fz j), Nat.lt_of_lt_of_le h.hi hb.2.2.2.1⟩
theorem tab5 (g : Int) (y : Nat) (hy : y < 5) (hg0 : 0 ≤ g) (hg1 : g ≤ 253402300800) : ∃ z : Int, (∀ W : World, (W.alloc (.cells #[.int .i64 (-1), .int .i64 (g - 1), .int .i64 253402300799, .int .i64 253402300800, .int .i64 0] 2)).cell? ⟨W.heap.size, y, none⟩ = some (.int .i64 z)) ∧ -1 ≤ z ∧ z ≤ 253402300860 ∧ (#[.int .i64 (-1), .int .i64 (g - 1), .int .i64 253402300799, .int .i64 253402300800, .int .i64 0] : Array Value)[y]? = some (.int .i64 z) ∧ ([.int .i64 (-1), .int .i64 (g - 1), .int .i64 253402300799, .int .i64 253402300800, .int .i64 0] : List Value)[y]? = some (.int .i64 z) := by
  rcases (show y = 0 ∨ y = 1 ∨ y = 2 ∨ y = 3 ∨ y = 4 by omega) with rfl | rfl | rfl | rfl | rfl
  · exact ⟨-1, fun W => World.cell?_alloc_mark _ _ _ _ _, by omega, by omega, rfl, rfl⟩
  · exact ⟨g - 1, fun W => World.cell?_alloc_mark _ _ _ _ _, by omega, by omega, rfl, rfl⟩
  · exact ⟨253402300799, fun W => World.cell?_alloc_mark _ _ _ _ _, by omega, by omega, rfl, rfl⟩
  · exact ⟨253402300800, fun W => World.cell?_alloc_mark _ _ _ _ _, by omega, by omega, rfl, rfl⟩
  · exact ⟨0, fun W => World.cell?_alloc_mark _ _ _ _ _, by omega, by omega, rfl, rfl⟩
set_option maxRecDepth 100000 in
set_option maxHeartbeats 4000000 in
theorem l10DrawNow (b : Nat) (sa : Option Addr) (sl sc : Nat) (o : Ob) (v u : Value) (w : World) (hc : Cur w b sa sl sc) (hg0 : 0 ≤ o.got) (hg1 : o.got ≤ 253402300800) :
    Calls Tryz.prog 44 #[.pointer (some ⟨b, 0, Option.none⟩), obV o v u] w fun e w' => (∃ z : Int, e = .returned (.int .i64 z) ∧ -1 ≤ z ∧ z ≤ 253402300860) ∧ Cur w' b sa sl sc ∧ Beside b w w' := by
  have hbz : b < w.heap.size := hc.2.2.1
  have Q0 : Hid (ObB (w.alloc (.cells #[.string o.k, v, .int .i64 o.r.s, u, .string o.r.b, .int .i64 o.asked, .int .i64 o.got, .int .i64 o.ep] 28)) w.heap.size o v u) := ObB.new w o _ _ _
  have C0 : Hid (Cur (w.alloc (.cells #[.string o.k, v, .int .i64 o.r.s, u, .string o.r.b, .int .i64 o.asked, .int .i64 o.got, .int .i64 o.ep] 28)) b sa sl sc) := hc.more9 _
  have B0 : Hid (Beside b w (w.alloc (.cells #[.string o.k, v, .int .i64 o.r.s, u, .string o.r.b, .int .i64 o.asked, .int .i64 o.got, .int .i64 o.ep] 28))) := (Beside.refl b w).more9 _
  have HT := fun y hy => tab5 o.got y hy hg0 hg1
  have e1 : IntKind.i64.wrap (o.got - 1) = o.got - 1 := by rw [IntKind.wrap_i64]; omega
  clear hc
  unfold obV
  go_enter Tryz.func44, Tryz.ntmps44
  go_wp2_with fail
  refine (l1Once b sa sl sc 10 (by decide) (by decide) _ C0.out).mono ?_
  rintro e w1 ⟨tt, rfl, hc1, hb1⟩
  have Q1 : Hid (ObB w1 w.heap.size o v u) := Q0.out.beside hb1 (by omega)
  have C1 : Hid (Cur w1 b sa sl sc) := hc1
  have B1 : Hid (Beside b w w1) := B0.out.trans hb1
  have C1d : Hid (Cur w1.drew b sa sl sc) := hc1
  have hbr : b < w1.heap.size := hc1.2.2.1
  clear hb1 hc1 Q0 C0 B0
  have q6 := Q1.out.c6
  cases tt with
  | true =>
    go_wp2
    go_region_with (first
      | (go_at_call 65; refine (l1Below b sa sl sc 5 (by decide) (by decide) w1.drew C1d.out).mono ?_; rintro e w2 ⟨y, rfl, hy0, hy1, hc2, hb2⟩; obtain ⟨y, rfl⟩ := Int.eq_ofNat_of_zero_le hy0; have hy4 : ¬ (y : Int) < 0 := (by omega); have hy5 : y < 5 := (by omega); have hy6 : ¬ 5 ≤ y := (by omega); have hy7 : ((y : Int)).toNat = y := (by omega); obtain ⟨z, hz, hz0, hz1, hzA, hzL⟩ := HT y (by omega); have hz2 := hz w2; have B2 : Hid (Beside b w w2) := B1.out.trans hb2; have C2 : Hid (Cur w2 b sa sl sc) := hc2; have p6 : w2.cell? ⟨w.heap.size, 6, none⟩ = some (.int .i64 o.got) := (Q1.out.beside (w' := w2) hb2 (by omega)).c6; clear hb2 hc2)
      | (go_at_call 65; refine (l1Below b sa sl sc 5 (by decide) (by decide) _ (C1d.out.more9 _)).mono ?_; rintro e w2 ⟨y, rfl, hy0, hy1, hc2, hb2⟩; obtain ⟨y, rfl⟩ := Int.eq_ofNat_of_zero_le hy0; have hy4 : ¬ (y : Int) < 0 := (by omega); have hy5 : y < 5 := (by omega); have hy6 : ¬ 5 ≤ y := (by omega); have hy7 : ((y : Int)).toNat = y := (by omega); obtain ⟨z, hz, hz0, hz1, hzA, hzL⟩ := HT y (by omega); have hz2 : w2.cell? ⟨w1.heap.size, y, none⟩ = some (.int .i64 z) := besideCell hb2 (by show w1.heap.size ≠ b; omega) (hz w1.drew); have B2 : Hid (Beside b w w2) := (B1.out.more9 _).trans hb2; have C2 : Hid (Cur w2 b sa sl sc) := hc2; clear hb2 hc2))
    all_goals
      go_wp2
      go_ret
      first
        | exact ⟨⟨_, rfl, hz0, hz1⟩, C2.out, B2.out⟩
        | exact ⟨⟨_, rfl, hz0, hz1⟩, C2.out.more9 _, B2.out.more9 _⟩
  | false =>
    go_wp2
    go_region_with (first
      | (go_at_call 65; refine (l1Below b sa sl sc 60 (by decide) (by decide) w1.drew C1d.out).mono ?_; rintro e w2 ⟨y, rfl, hy0, hy1, hc2, hb2⟩; have B2 : Hid (Beside b w w2) := B1.out.trans hb2; have C2 : Hid (Cur w2 b sa sl sc) := hc2; have p6 : w2.cell? ⟨w.heap.size, 6, none⟩ = some (.int .i64 o.got) := (Q1.out.beside (w' := w2) hb2 (by omega)).c6; have e2 : IntKind.i64.wrap (o.got + y) = o.got + y := (by rw [IntKind.wrap_i64]; omega); clear hb2 hc2))
    all_goals
      go_wp2
      go_ret
      exact ⟨⟨_, rfl, by omega, by omega⟩, C2.out, B2.out⟩
end Go.Proofs.YtkaogmdhjcgcdaaGreatDoor
namespace Go.Proofs.YtkaogmdhjcgcdaaGreatDoor
open Go.RowKit Go.Sort Go.Maps
set_option linter.unusedVariables false
set_option linter.unusedSimpArgs false

theorem OwnsF.putL10 {B g : Nat} {v : Value} {l : List Fl} : ∀ {w : World} (h : OwnsF w B v l) (hg : g < B) (vs : List Value) (i : Nat), OwnsF (putL w g vs i) B v l
  | w, h, hg, [], _ => h
  | w, h, hg, x :: vs, i => OwnsF.putL10 (h.putlow10 hg i x) hg vs (i + 1)
theorem low_put10 {B g k : Nat} {w w' : World} {x : Value} (h : Below B w w') (hg : B ≤ g) : Below B w (w'.setCell ⟨g, k, none⟩ x) := h.setCell (p := ⟨g, k, none⟩) hg x
theorem ObB.put210 {w : World} {b : Nat} {o : Ob} {v u : Value} (h : ObB w b o v u) (s : Int) : ObB (w.setCell ⟨b, 2, none⟩ (.int .i64 s)) b ⟨o.k, o.l, ⟨s, o.r.l, o.r.b⟩, o.asked, o.got, o.ep⟩ v u where
  c0 := by rw [World.cell?_setCell_other _ _ _ _ (by simp)]; exact h.c0
  c1 := by rw [World.cell?_setCell_other _ _ _ _ (by simp)]; exact h.c1
  c2 := World.cell?_setCell_same _ _ _ h.c2
  c3 := by rw [World.cell?_setCell_other _ _ _ _ (by simp)]; exact h.c3
  c4 := by rw [World.cell?_setCell_other _ _ _ _ (by simp)]; exact h.c4
  c5 := by rw [World.cell?_setCell_other _ _ _ _ (by simp)]; exact h.c5
  c6 := by rw [World.cell?_setCell_other _ _ _ _ (by simp)]; exact h.c6
  c7 := by rw [World.cell?_setCell_other _ _ _ _ (by simp)]; exact h.c7
  fz := fun k => by rw [World.frozen?_setCell]; exact h.fz k
  hi := by rw [World.size_setCell]; exact h.hi
theorem ObB.put310 {w : World} {b : Nat} {o : Ob} {v u : Value} (h : ObB w b o v u) (l : List Fl) (x : Value) : ObB (w.setCell ⟨b, 3, none⟩ x) b ⟨o.k, o.l, ⟨o.r.s, l, o.r.b⟩, o.asked, o.got, o.ep⟩ v x where
  c0 := by rw [World.cell?_setCell_other _ _ _ _ (by simp)]; exact h.c0
  c1 := by rw [World.cell?_setCell_other _ _ _ _ (by simp)]; exact h.c1
  c2 := by rw [World.cell?_setCell_other _ _ _ _ (by simp)]; exact h.c2
  c3 := World.cell?_setCell_same _ _ _ h.c3
  c4 := by rw [World.cell?_setCell_other _ _ _ _ (by simp)]; exact h.c4
  c5 := by rw [World.cell?_setCell_other _ _ _ _ (by simp)]; exact h.c5
  c6 := by rw [World.cell?_setCell_other _ _ _ _ (by simp)]; exact h.c6
  c7 := by rw [World.cell?_setCell_other _ _ _ _ (by simp)]; exact h.c7
  fz := fun k => by rw [World.frozen?_setCell]; exact h.fz k
  hi := by rw [World.size_setCell]; exact h.hi
theorem ObB.put410 {w : World} {b : Nat} {o : Ob} {v u : Value} (h : ObB w b o v u) (t : ByteArray) : ObB (w.setCell ⟨b, 4, none⟩ (.string t)) b ⟨o.k, o.l, ⟨o.r.s, o.r.l, t⟩, o.asked, o.got, o.ep⟩ v u where
  c0 := by rw [World.cell?_setCell_other _ _ _ _ (by simp)]; exact h.c0
  c1 := by rw [World.cell?_setCell_other _ _ _ _ (by simp)]; exact h.c1
  c2 := by rw [World.cell?_setCell_other _ _ _ _ (by simp)]; exact h.c2
  c3 := by rw [World.cell?_setCell_other _ _ _ _ (by simp)]; exact h.c3
  c4 := World.cell?_setCell_same _ _ _ h.c4
  c5 := by rw [World.cell?_setCell_other _ _ _ _ (by simp)]; exact h.c5
  c6 := by rw [World.cell?_setCell_other _ _ _ _ (by simp)]; exact h.c6
  c7 := by rw [World.cell?_setCell_other _ _ _ _ (by simp)]; exact h.c7
  fz := fun k => by rw [World.frozen?_setCell]; exact h.fz k
  hi := by rw [World.size_setCell]; exact h.hi
theorem ObB.put510 {w : World} {b : Nat} {o : Ob} {v u : Value} (h : ObB w b o v u) (n : Int) : ObB (w.setCell ⟨b, 5, none⟩ (.int .i64 n)) b ⟨o.k, o.l, o.r, n, o.got, o.ep⟩ v u where
  c0 := by rw [World.cell?_setCell_other _ _ _ _ (by simp)]; exact h.c0
  c1 := by rw [World.cell?_setCell_other _ _ _ _ (by simp)]; exact h.c1
  c2 := by rw [World.cell?_setCell_other _ _ _ _ (by simp)]; exact h.c2
  c3 := by rw [World.cell?_setCell_other _ _ _ _ (by simp)]; exact h.c3
  c4 := by rw [World.cell?_setCell_other _ _ _ _ (by simp)]; exact h.c4
  c5 := World.cell?_setCell_same _ _ _ h.c5
  c6 := by rw [World.cell?_setCell_other _ _ _ _ (by simp)]; exact h.c6
  c7 := by rw [World.cell?_setCell_other _ _ _ _ (by simp)]; exact h.c7
  fz := fun k => by rw [World.frozen?_setCell]; exact h.fz k
  hi := by rw [World.size_setCell]; exact h.hi
theorem ObB.put610 {w : World} {b : Nat} {o : Ob} {v u : Value} (h : ObB w b o v u) (n : Int) : ObB (w.setCell ⟨b, 6, none⟩ (.int .i64 n)) b ⟨o.k, o.l, o.r, o.asked, n, o.ep⟩ v u where
  c0 := by rw [World.cell?_setCell_other _ _ _ _ (by simp)]; exact h.c0
  c1 := by rw [World.cell?_setCell_other _ _ _ _ (by simp)]; exact h.c1
  c2 := by rw [World.cell?_setCell_other _ _ _ _ (by simp)]; exact h.c2
  c3 := by rw [World.cell?_setCell_other _ _ _ _ (by simp)]; exact h.c3
  c4 := by rw [World.cell?_setCell_other _ _ _ _ (by simp)]; exact h.c4
  c5 := by rw [World.cell?_setCell_other _ _ _ _ (by simp)]; exact h.c5
  c6 := World.cell?_setCell_same _ _ _ h.c6
  c7 := by rw [World.cell?_setCell_other _ _ _ _ (by simp)]; exact h.c7
  fz := fun k => by rw [World.frozen?_setCell]; exact h.fz k
  hi := by rw [World.size_setCell]; exact h.hi
def GN (o : Ob) (r : Rs) (asked got : Int) (va ua : Option Addr) (vc uc xc g q n0 n2 n3 n5 nr : Nat) (a4 a6 : Option Addr) (c4 c6 : Nat) (u11 u43 u44 u59 : Value) (k : Nat) (L : List Fl) (f : Fl) (i : Nat) (x : World) (v : Value) : Prop := match i with
  | 0 => v = u11
  | 1 => v = (.pointer (some ⟨n0 + 1, 1, none⟩))
  | 2 => v = (.slice (some ⟨g, q, none⟩) r.l.length xc)
  | 3 => v = (.int .i64 (k : Int))
  | 4 => v = (.pointer (some ⟨g, q + k * 2, none⟩))
  | 5 => v = (.pointer (some ⟨g, q + k * 2, none⟩))
  | 6 => v = (.string f.1)
  | 7 => OwnsF x nr v (wo L f.1)
  | 8 => v = (.pointer (some ⟨n0 + 1, 1, none⟩))
  | 9 => v = (.slice (some ⟨g, q, none⟩) r.l.length xc)
  | 10 => v = (.int .i64 (k : Int))
  | 11 => v = (.pointer (some ⟨g, q + k * 2, none⟩))
  | 12 => v = (.agg #[.string f.1, .string f.2])
  | 13 => ∃ gg, v = .slice (some ⟨gg, 0, none⟩) 1 1 ∧ x.heap[gg]? = some (.cells #[.string f.1, .string f.2] 105 (0, 0))
  | _ => True
theorem GN.keep (o : Ob) (r : Rs) (asked got : Int) (va ua : Option Addr) (vc uc xc g q n0 n2 n3 n5 nr : Nat) (a4 a6 : Option Addr) (c4 c6 : Nat) (u11 u43 u44 u59 : Value) (k : Nat) (L : List Fl) (f : Fl) {x y : World} (hb : Below x.heap.size x y) (j : Nat) (v : Value) (hj : j < 14) (h : GN o r asked got va ua vc uc xc g q n0 n2 n3 n5 nr a4 a6 c4 c6 u11 u43 u44 u59 k L f j x v) : GN o r asked got va ua vc uc xc g q n0 n2 n3 n5 nr a4 a6 c4 c6 u11 u43 u44 u59 k L f j y v := by
  rcases (show j = 0 ∨ j = 1 ∨ j = 2 ∨ j = 3 ∨ j = 4 ∨ j = 5 ∨ j = 6 ∨ j = 7 ∨ j = 8 ∨ j = 9 ∨ j = 10 ∨ j = 11 ∨ j = 12 ∨ j = 13 by omega) with rfl | rfl | rfl | rfl | rfl | rfl | rfl | rfl | rfl | rfl | rfl | rfl | rfl | rfl
  · exact h
  · exact h
  · exact h
  · exact h
  · exact h
  · exact h
  · exact h
  · exact OwnsF.kept h hb
  · exact h
  · exact h
  · exact h
  · exact h
  · exact h
  · obtain ⟨gg, h1, h2⟩ := h; exact ⟨gg, h1, (hb.block gg (Array.getElem?_eq_some_iff.1 h2).1).trans h2⟩
end Go.Proofs.YtkaogmdhjcgcdaaGreatDoor
namespace Go.Proofs.YtkaogmdhjcgcdaaGreatDoor
open Go.RowKit Go.Sort
set_option linter.unusedVariables false
set_option linter.unusedSimpArgs false

/-- Some fields, none large. -/
def FewG (l : List Fl) : Prop := l.length ≤ 40 ∧ ∀ f ∈ l, f.1.size ≤ 84 ∧ f.2.size ≤ 84
theorem FewF.more {m : Nat} {l : List Fl} (h : FewF m l) (hm : m ≤ 40 := by decide) : FewG l := ⟨Nat.le_trans h.1 hm, fun f hf => by have := h.2 f hf; omega⟩
theorem FewG.sz {l : List Fl} (h : FewG l) : szL l ≤ 6720 := by
  have : ∀ (l : List Fl), (∀ f ∈ l, f.1.size ≤ 84 ∧ f.2.size ≤ 84) → szL l ≤ 168 * l.length := by
    intro l
    induction l with
    | nil => intro _; exact Nat.zero_le _
    | cons f l ih =>
      intro h
      have h1 := h f (by simp)
      have h2 := ih fun g hg => h g (by simp [hg])
      have e : szL (f :: l) = szF f + szL l := by simp [szL]
      rw [e, List.length_cons]
      unfold szF
      omega
  have h2 := this l h.2
  have := h.1
  omega
/-- An object that is not large. -/
def FewO (o : Ob) : Prop := o.k.size ≤ 600 ∧ FewG o.l ∧ FewG o.r.l ∧ o.r.b.size ≤ 4100 ∧ (0 ≤ o.got ∧ o.got ≤ 253402300800)
def gOb (B : Nat) (x : World) (v : Value) : Prop := ∃ o p u, v = obV o p u ∧ OwnsF x B p o.l ∧ OwnsF x B u o.r.l ∧ FewO o
theorem gOb.keep {b B : Nat} {x y : World} {v : Value} (h : gOb B x v) (hb : Beside b x y) (hB : b < B) : gOb B y v := by obtain ⟨o, p, u, h0, h1, h2, h3⟩ := h; exact ⟨o, p, u, h0, h1.beside10 hb hB, h2.beside10 hb hB, h3⟩
def frX (b n B : Nat) (gz : Int) (z5 : Value) (t : Nat → Value) : Act := { tmps := #[.pointer (some ⟨b, 0, none⟩), undef, .pointer (some ⟨n, 0, none⟩), .int .i64 gz, .pointer (some ⟨b, 0, none⟩), z5, .int .i64 gz, t 7, t 8, t 9, t 10, t 11, t 12, t 13, t 14, t 15, t 16, t 17, t 18, t 19, t 20, t 21, t 22, t 23], defers := [] }
def dX (i : Nat) : Nat := if i = 0 then 7 else if i = 1 then 8 else if i = 2 then 9 else if i = 3 then 10 else if i = 4 then 11 else if i = 5 then 12 else if i = 6 then 13 else if i = 7 then 14 else if i = 8 then 15 else if i = 9 then 16 else if i = 10 then 17 else if i = 11 then 18 else if i = 12 then 19 else if i = 13 then 20 else if i = 14 then 21 else if i = 15 then 22 else if i = 16 then 23 else i + 5000
def GX (b n B : Nat) (gz : Int) (z5 : Value) (i : Nat) (x : World) (v : Value) : Prop := match i with
  | 0 => gTabS b [⟨#[104, 47, 97]⟩, ⟨#[104, 47, 98]⟩, ⟨#[104, 47, 97, 47, 99]⟩, ⟨#[104, 47]⟩] x v
  | 1 => v = .pointer (some ⟨b, 0, none⟩)
  | 2 => gNum 4 v
  | 3 => gPtS b [⟨#[104, 47, 97]⟩, ⟨#[104, 47, 98]⟩, ⟨#[104, 47, 97, 47, 99]⟩, ⟨#[104, 47]⟩] x v
  | 4 => gTxt 5 v
  | 5 => v = .pointer (some ⟨b, 0, none⟩)
  | 6 => gFl B 2 x v
  | 7 => v = .pointer (some ⟨b, 0, none⟩)
  | 8 => gRs B x v
  | 9 => v = (.int .i64 gz)
  | 10 => v = .pointer (some ⟨b, 0, none⟩)
  | 11 => gNum 5 v
  | 12 => gInt 990 1019 v
  | 13 => v = (.int .i64 gz)
  | 14 => v = .pointer (some ⟨b, 0, none⟩)
  | 15 => gNum 5 v
  | 16 => gOb B x v
  | _ => True
theorem GX.keep (b n B : Nat) (gz : Int) (z5 : Value) {x y : World} (hb : Beside b x y) (hB : b < B) (j : Nat) (v : Value) (hj : j < 17) (h : GX b n B gz z5 j x v) : GX b n B gz z5 j y v := by
  rcases (show j = 0 ∨ j = 1 ∨ j = 2 ∨ j = 3 ∨ j = 4 ∨ j = 5 ∨ j = 6 ∨ j = 7 ∨ j = 8 ∨ j = 9 ∨ j = 10 ∨ j = 11 ∨ j = 12 ∨ j = 13 ∨ j = 14 ∨ j = 15 ∨ j = 16 by omega) with rfl | rfl | rfl | rfl | rfl | rfl | rfl | rfl | rfl | rfl | rfl | rfl | rfl | rfl | rfl | rfl | rfl
  · exact gTabS.keep h hb
  · exact h
  · exact h
  · exact gPtS.keep h hb
  · exact h
  · exact h
  · exact gFl.keep h hb hB
  · exact h
  · exact gRs.keep h hb hB
  · exact h
  · exact h
  · exact h
  · exact h
  · exact h
  · exact h
  · exact h
  · exact gOb.keep h hb hB
theorem dX_ne {i j : Nat} (hi : i < 17) (hj : j < 17) (h : j ≠ i) : dX j ≠ dX i := by
  rcases (show i = 0 ∨ i = 1 ∨ i = 2 ∨ i = 3 ∨ i = 4 ∨ i = 5 ∨ i = 6 ∨ i = 7 ∨ i = 8 ∨ i = 9 ∨ i = 10 ∨ i = 11 ∨ i = 12 ∨ i = 13 ∨ i = 14 ∨ i = 15 ∨ i = 16 by omega) with rfl | rfl | rfl | rfl | rfl | rfl | rfl | rfl | rfl | rfl | rfl | rfl | rfl | rfl | rfl | rfl | rfl <;> rcases (show j = 0 ∨ j = 1 ∨ j = 2 ∨ j = 3 ∨ j = 4 ∨ j = 5 ∨ j = 6 ∨ j = 7 ∨ j = 8 ∨ j = 9 ∨ j = 10 ∨ j = 11 ∨ j = 12 ∨ j = 13 ∨ j = 14 ∨ j = 15 ∨ j = 16 by omega) with rfl | rfl | rfl | rfl | rfl | rfl | rfl | rfl | rfl | rfl | rfl | rfl | rfl | rfl | rfl | rfl | rfl <;> first | (exact absurd rfl h) | decide
set_option maxRecDepth 100000 in
set_option maxHeartbeats 8000000 in
theorem l10DrawO (b : Nat) (sa : Option Addr) (sl sc : Nat) (w : World) (hc : Cur w b sa sl sc) :
    Calls Tryz.prog 89 #[.pointer (some ⟨b, 0, none⟩)] w fun e w' => (∃ v, e = .returned v ∧ gOb w.heap.size w' v) ∧ Cur w' b sa sl sc ∧ Beside b w w' := by
  have hbz : b < w.heap.size := hc.2.2.1
  obtain ⟨B, hB⟩ : ∃ B, B = w.heap.size + 1 := ⟨_, rfl⟩
  have hBb : b < B := by omega
  go_enter Tryz.func89, Tryz.ntmps89
  go_wp2_with fail
  refine (l1Below b sa sl sc 20 (by decide) (by decide) (w.alloc (.cells #[.string ⟨#[]⟩, .slice none 0 0, .int .i64 0, .slice none 0 0, .string ⟨#[]⟩, .int .i64 0, .int .i64 0, .int .i64 0] 28)) (hc.more9 _)).mono ?_
  rintro e w1 ⟨z, rfl, hz0, hz1, hc1, hb1⟩
  have N1 : Hid (ObB w1 w.heap.size noO (.slice none 0 0) (.slice none 0 0)) := (ObB.new w noO (.slice none 0 0) (.slice none 0 0) 28).beside hb1 (by omega)
  have B1 : Hid (Beside b w w1) := ((Beside.refl b w).more9 _).trans hb1
  have hw1 : B ≤ w1.heap.size := by have := N1.out.hi; omega
  have ew : IntKind.i64.wrap (1000 + z) = 1000 + z := by rw [IntKind.wrap_i64]; omega
  have hBx : ∀ x, SCur b sa sl sc w1 x → B ≤ x.heap.size := fun x h => by have := h.size; omega
  have hS0 : SCur b sa sl sc w1 w1.drew := ⟨hc1, ⟨rfl, rfl, rfl, Nat.le_refl _, fun _ _ _ => rfl⟩⟩
  clear hb1 hc1 hc
  go_upto_region 2 with fail
  obtain ⟨gz, hgz⟩ : ∃ gz, gz = 1000 + z := ⟨_, rfl⟩
  obtain ⟨z5, hz5⟩ : ∃ z5 : Value, z5 = .int .i64 z := ⟨_, rfl⟩
  rw [← hgz, ← hz5]
  have hg0 : 1000 ≤ gz := by omega
  have hg1 : gz ≤ 1019 := by omega
  clear hgz hz5 hz0 hz1 ew
  refine region_heads 17 mixed (by decide) (by kernel_rfl) (by kernel_rfl) (by kernel_rfl) (by kernel_rfl) (frX b w.heap.size B gz z5) dX (SCur b sa sl sc w1) (GX b w.heap.size B gz z5) (fun i j hi hj h => dX_ne hi hj h) ?put (fun _ => undef) rfl ?hS ?step ?done
  case put =>
    intro i o hi ho t v
    rcases (show i = 0 ∨ i = 1 ∨ i = 2 ∨ i = 3 ∨ i = 4 ∨ i = 5 ∨ i = 6 ∨ i = 7 ∨ i = 8 ∨ i = 9 ∨ i = 10 ∨ i = 11 ∨ i = 12 ∨ i = 13 ∨ i = 14 ∨ i = 15 ∨ i = 16 by omega) with rfl | rfl | rfl | rfl | rfl | rfl | rfl | rfl | rfl | rfl | rfl | rfl | rfl | rfl | rfl | rfl | rfl
    all_goals
      obtain rfl := Option.some.inj ho
      rfl
  case step =>
    intro i o hi ho t x hS hdep K hK
    rcases (show i = 0 ∨ i = 1 ∨ i = 2 ∨ i = 3 ∨ i = 4 ∨ i = 5 ∨ i = 6 ∨ i = 7 ∨ i = 8 ∨ i = 9 ∨ i = 10 ∨ i = 11 ∨ i = 12 ∨ i = 13 ∨ i = 14 ∨ i = 15 ∨ i = 16 by omega) with rfl | rfl | rfl | rfl | rfl | rfl | rfl | rfl | rfl | rfl | rfl | rfl | rfl | rfl | rfl | rfl | rfl
    all_goals obtain rfl := Option.some.inj ho
    · have HK : Hid (K ((frX b w.heap.size B gz z5 t).put (some 7) (.slice (some ⟨x.heap.size, 0, none⟩) 4 4)) (x.alloc (.cells (List.map Value.string [⟨#[104, 47, 97]⟩, ⟨#[104, 47, 98]⟩, ⟨#[104, 47, 97, 47, 99]⟩, ⟨#[104, 47]⟩]).toArray 9))) := hK _ _ (hS.more _) (fun j u hj hne h => GX.keep b w.heap.size B gz z5 (besAlloc b x _) hBb j u hj h) ⟨x.heap.size, rfl, newAt x _, (by have := hS.lt; omega)⟩
      unfold frX
      go_simp
      exact HK.out
    · have HK : Hid (K ((frX b w.heap.size B gz z5 t).put (some 8) (.pointer (some ⟨b, 0, none⟩))) x) := hK _ _ hS (fun j u hj hne h => h) rfl
      unfold frX
      go_simp
      exact HK.out
    · have e : t 8 = .pointer (some ⟨b, 0, none⟩) := hdep { on := 1, ground := Ground.data } (by simp) rfl
      exact step_below rfl 4 (by decide) (by decide) (.tmp 8) _ rfl e hS (fun v y k1 k2 k3 => hK v y k1 (fun j u hj hne h => GX.keep b w.heap.size B gz z5 k2 hBb j u hj h) k3)
    · have ga : gTabS b [⟨#[104, 47, 97]⟩, ⟨#[104, 47, 98]⟩, ⟨#[104, 47, 97, 47, 99]⟩, ⟨#[104, 47]⟩] x (t 7) := hdep { on := 0, ground := Ground.data } (by simp) rfl
      obtain ⟨g, ea, hT, hgb⟩ := ga
      have gc : gNum 4 (t 9) := hdep { on := 2, ground := Ground.data } (by simp) rfl
      obtain ⟨k, ec, hk⟩ := gc
      have hkI : (k : Int) < 4 := by omega
      have hk0 : ¬ (k : Int) < 0 := by omega
      have HK : Hid (K ((frX b w.heap.size B gz z5 t).put (some 10) (.pointer (some ⟨g, k, none⟩))) x) := hK _ _ hS (fun j u hj hne h => h) ⟨g, k, rfl, hk, hT, hgb⟩
      have h2 := HK.out
      unfold frX at h2 ⊢
      go_simp
      simpa [Act.put, ea, ec, hkI] using h2
    · have ga : gPtS b [⟨#[104, 47, 97]⟩, ⟨#[104, 47, 98]⟩, ⟨#[104, 47, 97, 47, 99]⟩, ⟨#[104, 47]⟩] x (t 10) := hdep { on := 3, ground := Ground.data } (by simp) rfl
      obtain ⟨g, k, ea, hk, hT, hgb⟩ := ga
      obtain ⟨z, hz0, c0⟩ : ∃ z : ByteArray, z.size ≤ 5 ∧ x.cell? ⟨g, k, none⟩ = some (.string z) := ⟨_, (by decide : ∀ s ∈ ([⟨#[104, 47, 97]⟩, ⟨#[104, 47, 98]⟩, ⟨#[104, 47, 97, 47, 99]⟩, ⟨#[104, 47]⟩] : List ByteArray), s.size ≤ 5) _ (List.getElem_mem hk), tabS_at hT hk⟩
      have HK : Hid (K ((frX b w.heap.size B gz z5 t).put (some 11) (.string z)) x) := hK _ _ hS (fun j u hj hne h => h) ⟨z, rfl, hz0⟩
      have h2 := HK.out
      unfold frX at h2 ⊢
      go_simp
      simpa [Act.put, ea, c0] using h2
    · have HK : Hid (K ((frX b w.heap.size B gz z5 t).put (some 12) (.pointer (some ⟨b, 0, none⟩))) x) := hK _ _ hS (fun j u hj hne h => h) rfl
      unfold frX
      go_simp
      exact HK.out
    · have e : t 12 = .pointer (some ⟨b, 0, none⟩) := hdep { on := 5, ground := Ground.data } (by simp) rfl
      exact step_draw1 rfl 66 (.tmp 12) _ rfl e hS (Go.Proofs.enters_of Tryz.func66 (by kernel_rfl) rfl) (fun x v => gFl B 2 x v) ((l10DrawAsks b sa sl sc x hS.1).mono fun e y ⟨⟨u, l, h0, h1, h2⟩, h3, h4⟩ => ⟨⟨u, h0, l, h1.low (hBx x hS), h2⟩, h3, h4⟩) (fun v y k1 k2 k3 => hK v y k1 (fun j u hj hne h => GX.keep b w.heap.size B gz z5 k2 hBb j u hj h) k3)
    · have HK : Hid (K ((frX b w.heap.size B gz z5 t).put (some 14) (.pointer (some ⟨b, 0, none⟩))) x) := hK _ _ hS (fun j u hj hne h => h) rfl
      unfold frX
      go_simp
      exact HK.out
    · have e : t 14 = .pointer (some ⟨b, 0, none⟩) := hdep { on := 7, ground := Ground.data } (by simp) rfl
      exact step_draw1 rfl 67 (.tmp 14) _ rfl e hS (Go.Proofs.enters_of Tryz.func67 (by kernel_rfl) rfl) (fun x v => gRs B x v) ((l10DrawR b sa sl sc x hS.1).mono fun e y ⟨⟨v, h0, r, u, h1, h2, h3⟩, h4, h5⟩ => ⟨⟨v, h0, r, u, h1, h2.low (hBx x hS), h3⟩, h4, h5⟩) (fun v y k1 k2 k3 => hK v y k1 (fun j u hj hne h => GX.keep b w.heap.size B gz z5 k2 hBb j u hj h) k3)
    · have HK : Hid (K ((frX b w.heap.size B gz z5 t).put (some 16) (.int .i64 gz)) x) := hK _ _ hS (fun j u hj hne h => h) rfl
      have h2 := HK.out
      unfold frX at h2 ⊢
      go_simp
      simpa [Act.put, Act.put] using h2
    · have HK : Hid (K ((frX b w.heap.size B gz z5 t).put (some 17) (.pointer (some ⟨b, 0, none⟩))) x) := hK _ _ hS (fun j u hj hne h => h) rfl
      unfold frX
      go_simp
      exact HK.out
    · have e : t 17 = .pointer (some ⟨b, 0, none⟩) := hdep { on := 10, ground := Ground.data } (by simp) rfl
      exact step_below rfl 5 (by decide) (by decide) (.tmp 17) _ rfl e hS (fun v y k1 k2 k3 => hK v y k1 (fun j u hj hne h => GX.keep b w.heap.size B gz z5 k2 hBb j u hj h) k3)
    · have e9 : t 16 = .int .i64 gz := hdep { on := 9, ground := Ground.data } (by simp) rfl
      have gc : gNum 5 (t 18) := hdep { on := 11, ground := Ground.data } (by simp) rfl
      obtain ⟨k, ec, hk⟩ := gc
      have ew : IntKind.i64.wrap (gz - (k : Int)) = gz - (k : Int) := by rw [IntKind.wrap_i64]; omega
      have HK : Hid (K ((frX b w.heap.size B gz z5 t).put (some 19) (.int .i64 (gz - (k : Int)))) x) := hK _ _ hS (fun j u hj hne h => h) ⟨_, rfl, by omega, by omega⟩
      have h2 := HK.out
      unfold frX at h2 ⊢
      go_simp
      simpa [Act.put, e9, ec, ew] using h2
    · have HK : Hid (K ((frX b w.heap.size B gz z5 t).put (some 20) (.int .i64 gz)) x) := hK _ _ hS (fun j u hj hne h => h) rfl
      have h2 := HK.out
      unfold frX at h2 ⊢
      go_simp
      simpa [Act.put, Act.put] using h2
    · have HK : Hid (K ((frX b w.heap.size B gz z5 t).put (some 21) (.pointer (some ⟨b, 0, none⟩))) x) := hK _ _ hS (fun j u hj hne h => h) rfl
      unfold frX
      go_simp
      exact HK.out
    · have e : t 21 = .pointer (some ⟨b, 0, none⟩) := hdep { on := 14, ground := Ground.data } (by simp) rfl
      exact step_below rfl 5 (by decide) (by decide) (.tmp 21) _ rfl e hS (fun v y k1 k2 k3 => hK v y k1 (fun j u hj hne h => GX.keep b w.heap.size B gz z5 k2 hBb j u hj h) k3)
    · have g4 : gTxt 5 (t 11) := hdep { on := 4, ground := Ground.data } (by simp) rfl
      obtain ⟨sk, e4, hk4⟩ := g4
      have g6 : gFl B 2 x (t 13) := hdep { on := 6, ground := Ground.data } (by simp) rfl
      obtain ⟨l, ho6, hl6⟩ := g6
      obtain ⟨a6, c6, e6, _, _⟩ := ho6.form
      rw [e6] at ho6
      have g8 : gRs B x (t 15) := hdep { on := 8, ground := Ground.data } (by simp) rfl
      obtain ⟨r, u, e8, ho8, hr8⟩ := g8
      obtain ⟨a8, c8, rfl, _, _⟩ := ho8.form
      unfold rsV at e8
      have g12 : gInt 990 1019 (t 19) := hdep { on := 12, ground := Ground.data } (by simp) rfl
      obtain ⟨za, e12, hz0, hz1⟩ := g12
      have e13 : t 20 = .int .i64 gz := hdep { on := 13, ground := Ground.data } (by simp) rfl
      have g15 : gNum 5 (t 22) := hdep { on := 15, ground := Ground.data } (by simp) rfl
      obtain ⟨kk, e15, hk15⟩ := g15
      have HK : Hid (K ((frX b w.heap.size B gz z5 t).put (some 23) (.agg #[.string sk, .slice a6 l.length c6, .int .i64 r.s, .slice a8 r.l.length c8, .string r.b, .int .i64 za, .int .i64 gz, .int .i64 (kk : Int)])) x) := hK _ _ hS (fun j u hj hne h => h) ⟨⟨sk, l, r, za, gz, (kk : Int)⟩, _, _, rfl, ho6, ho8, by show sk.size ≤ 600; omega, hl6.more, hr8.1.more, by show r.b.size ≤ 4100; have := hr8.2.2; omega, by show 0 ≤ gz ∧ gz ≤ 253402300800; omega⟩
      have h2 := HK.out
      unfold frX at h2 ⊢
      go_simp
      simpa [Act.put, e4, e6, e8, e12, e13, e15] using h2
  case hS => exact hS0
  case done =>
    intro t x hS hG
    obtain ⟨o, p, u, e23, h1, h2, h3⟩ : gOb B x (t 23) := hG 16 (by decide)
    obtain ⟨a6, c6, rfl, _, _⟩ := h1.form
    obtain ⟨a8, c8, rfl, _, _⟩ := h2.form
    have N2 : Hid (ObB x w.heap.size noO (.slice none 0 0) (.slice none 0 0)) := N1.out.beside hS.2 (by omega)
    have HP : Hid (ObB (putL x w.heap.size (obL o (.slice a6 o.l.length c6) (.slice a8 o.r.l.length c8)) 0) w.heap.size o (.slice a6 o.l.length c6) (.slice a8 o.r.l.length c8)) := N2.out.puts _ _ _
    have BP : Hid (Below w.heap.size x (putL x w.heap.size (obL o (.slice a6 o.l.length c6) (.slice a8 o.r.l.length c8)) 0)) := putL_below (Nat.le_refl _) _ 0 (Below.refl _ _)
    have VP : Hid (OwnsF (putL x w.heap.size (obL o (.slice a6 o.l.length c6) (.slice a8 o.r.l.length c8)) 0) w.heap.size (.slice a6 o.l.length c6) o.l) := (h1.putL10 (by omega) _ 0).low (by omega)
    have UP : Hid (OwnsF (putL x w.heap.size (obL o (.slice a6 o.l.length c6) (.slice a8 o.r.l.length c8)) 0) w.heap.size (.slice a8 o.r.l.length c8) o.r.l) := (h2.putL10 (by omega) _ 0).low (by omega)
    have C2 : Hid (Cur x b sa sl sc) := hS.1
    have B2 : Hid (Beside b w x) := B1.out.trans hS.2
    obtain ⟨z0, z1, z2, z3, z4, z5', z6, z7, zf, zh⟩ := N2.out
    simp only [noO, noS] at z0 z1 z2 z3 z4 z5' z6 z7
    clear hG hS h1 h2 N1 N2 B1
    unfold obV at e23
    show wpList Tryz.prog _ _ [_] _ x
    unfold frX
    rw [e23]
    clear e23
    go_wp2
    obtain ⟨p0, p1, p2, p3, p4, p5, p6, p7, pf, ph⟩ := HP.out
    have bp := BP.out
    have vp := VP.out
    have up := UP.out
    simp only [obL, putL, Nat.zero_add, Nat.reduceAdd] at p0 p1 p2 p3 p4 p5 p6 p7 bp vp up
    refine bodyPost_ret (v := obV o (.slice a6 o.l.length c6) (.slice a8 o.r.l.length c8)) (by unfold obV; simp [results, Tryz.results89, go_sem, p0, p1, p2, p3, p4, p5, p6, p7]) rfl ⟨⟨_, rfl, o, _, _, rfl, vp, up, h3⟩, C2.out.kept bp hbz, B2.out.grow10 bp (Nat.le_refl _)⟩
end Go.Proofs.YtkaogmdhjcgcdaaGreatDoor
namespace Go.Proofs.YtkaogmdhjcgcdaaGreatDoor
open Go.RowKit Go.Sort

def upd {α : Type} (f : Nat → α) (i : Nat) (x : α) : Nat → α := fun j => if j = i then x else f j
def lst (listed : Array Bool) : Nat → Bool := fun j => listed.getD j false
theorem lst_set {listed : Array Bool} {i : Nat} (hi : i < listed.size) : lst (listed.setIfInBounds i true) = upd (lst listed) i true := by
  funext j
  unfold lst upd
  by_cases h : j = i
  · subst h
    simp [hi]
  · rw [if_neg h]
    simp [Array.getElem?_setIfInBounds_ne (fun e => h e.symm)]
theorem lst_all (n : Nat) : lst (Array.replicate n false) = fun _ => false := by
  funext j
  unfold lst
  by_cases h : j < n <;> simp [h]
def left (listed : Array Bool) : Nat := listed.toList.count false
theorem left_set {listed : Array Bool} {i : Nat} (hi : listed.getD i true = false) : left (listed.setIfInBounds i true) + 1 = left listed := by
  have hlt : i < listed.size := by
    rcases Nat.lt_or_ge i listed.size with h | h
    · exact h
    · simp [Array.getElem?_eq_none h] at hi
  have he : listed.toList[i]'(by simpa using hlt) = false := by
    simp [hlt] at hi
    simpa using hi
  unfold left
  rw [Array.toList_setIfInBounds, List.count_set (by simpa using hlt)]
  have hp : 0 < listed.toList.count false := List.count_pos_iff.2 (by rw [← he]; exact List.getElem_mem _)
  rw [he]
  show listed.toList.count false - 1 + 0 + 1 = listed.toList.count false
  omega

theorem wpAny_inv {P : Program} {md : Region.Mode} {ops : Array Oper} {Q : Exit → Act → World → Prop} (Inv : (Nat → Bool) → Act → World → Prop)
    (hstep : ∀ (L : Nat → Bool) (a : Act) (w : World) (i : Nat) (o : Oper) (K : Act → World → Prop), ops[i]? = some o → L i = false → (∀ e ∈ o.after, Region.binds md e = true → L e.on = true) → Inv L a w → (∀ a' w', Inv (upd L i true) a' w' → K a' w') →
      if Region.wanted o (yielded ops a.tmps) = true then Oper.wp P o a w K Q else K (a.put o.dst undef) w)
    (hback : ∀ (i : Nat) (o : Oper), ops[i]? = some o → ∀ e ∈ o.after, Region.binds md e = true → e.on < i)
    (hdone : ∀ (L : Nat → Bool) (a : Act) (w : World), (∀ i, i < ops.size → L i = true) → Inv L a w → Q .normal a w) :
    ∀ (fuel : Nat) (listed : Array Bool) (a : Act) (w : World), listed.size = ops.size → left listed ≤ fuel → Inv (lst listed) a w → wpAny P md ops Q fuel listed a w := by
  have hall : ∀ (listed : Array Bool), listed.size = ops.size → Region.ready md ops listed = [] → ∀ i, i < ops.size → lst listed i = true := by
    intro listed hs hr i
    induction i using Nat.strongRecOn with
    | _ i ih =>
      intro hi
      cases h : lst listed i with
      | true => rfl
      | false =>
        have hm : i ∈ Region.ready md ops listed := mem_ready.2 ⟨by
            unfold lst at h
            have hlt : i < listed.size := by omega
            simp [hlt] at h ⊢
            exact h, ops[i], by simp [hi], fun e he hb => ih e.on (hback i ops[i] (by simp [hi]) e he hb) (by have := hback i ops[i] (by simp [hi]) e he hb; omega)⟩
        rw [hr] at hm
        cases hm
  intro fuel
  induction fuel with
  | zero =>
    intro listed a w hs hl hI
    have hr : Region.ready md ops listed = [] := by
      cases h : Region.ready md ops listed with
      | nil => rfl
      | cons i r =>
        have hm : i ∈ Region.ready md ops listed := by rw [h]; simp
        have := left_set (mem_ready.1 hm).1
        omega
    exact ⟨hr, hdone _ _ _ (hall listed hs hr) hI⟩
  | succ fuel ih =>
    intro listed a w hs hl hI
    refine ⟨fun hr => hdone _ _ _ (hall listed hs hr) hI, fun i hi => ?_⟩
    obtain ⟨h1, o, ho, hdep⟩ := mem_ready.1 hi
    have hlt : i < ops.size := (Array.getElem?_eq_some_iff.1 ho).1
    have hc := left_set h1
    have := hstep (lst listed) a w i o (wpAny P md ops Q fuel (listed.setIfInBounds i true)) ho (by unfold lst; simp [show i < listed.size by omega] at h1 ⊢; exact h1) hdep hI (fun a' w' h' => ih _ a' w' (by simpa using hs) (by omega) (by rw [lst_set (by omega)]; exact h'))
    unfold wpOp
    rw [ho]
    show if Region.wanted o (yielded ops a.tmps) = true then _ else _
    split
    · rename_i hw
      rw [if_pos hw] at this
      exact Or.inl this
    · rename_i hw
      rw [if_neg hw] at this
      exact this

theorem region_inv {P : Program} {ops : Array Oper} {Q : Exit → Act → World → Prop} {id : Nat} {a : Act} {w : World} (hm : P.follows .mixedOrders = true) (Inv : (Nat → Bool) → Act → World → Prop)
    (h0 : Inv (fun _ => false) a w.drew)
    (hstep : ∀ (L : Nat → Bool) (a : Act) (w : World) (i : Nat) (o : Oper) (K : Act → World → Prop), ops[i]? = some o → L i = false → (∀ e ∈ o.after, Region.binds .any e = true → L e.on = true) → Inv L a w → (∀ a' w', Inv (upd L i true) a' w' → K a' w') →
      if Region.wanted o (yielded ops a.tmps) = true then Oper.wp P o a w K Q else K (a.put o.dst undef) w)
    (hback : ∀ (i : Nat) (o : Oper), ops[i]? = some o → ∀ e ∈ o.after, Region.binds .any e = true → e.on < i)
    (hdone : ∀ (L : Nat → Bool) (a : Act) (w : World), (∀ i, i < ops.size → L i = true) → Inv L a w → Q .normal a w) : (Code.region id ops true).wp P Q a w := by
  refine wp_region_any hm (wpAny_inv Inv hstep hback hdone ops.size _ a _ (by simp) (by unfold left; simp) ?_)
  rw [lst_all]
  exact h0
end Go.Proofs.YtkaogmdhjcgcdaaGreatDoor

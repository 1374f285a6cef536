/-
  Drawn shelves: whatever the code, few things of short keys.
-/
import Derived.Test.YtnnmbgenepfacaaRomPm
import Derived.Test.YtnnmbgenepfacaaRomPn
import Derived.Test.YtnnmbgenepfacaaRomH
import Derived.Test.YtnnmbgenepfacaaIntZ
import Derived.Test.YtnnmbgenepfacaaRpR
namespace Go.Proofs.Ytnnmbgenepfacaa
open Go.RowKit Go.Sort Rom
set_option linter.unusedVariables false
set_option linter.unusedSimpArgs false

theorem spcPla (q : Int) (v : Value) (l : List It) (key : ByteArray) (n : Int) (w : World) (h : Sls itE w v l) (hlen : l.length ≤ 1048576) (hs : ∀ x ∈ l, x.1.size ≤ maxLen) (hks : key.size ≤ maxLen) :
    Calls Try.prog 32 #[shV q v, .string key, .int .i64 n] w fun e w' => ∃ u g, e = .returned (.tuple #[shV (usdQ q l) u, g]) ∧ OwnsI8 w' w.heap.size u (plaL q l key n) ∧ OwnsX w' w.heap.size g (plaG q l key n) ∧ Below w.heap.size w w' := by
  cases hok : shOk q l with
  | false => exact specPlaA q v l key n w h hlen hs hks hok
  | true =>
    cases hio : itOk q (key, n) with
    | false => exact specPlaB q v l key n w h hlen hs hks hok hio
    | true => exact specPlaC q v l key n w h hlen hs hks hok hio
theorem plaL_few (q : Int) (l : List It) (key : ByteArray) (n : Int) : (plaL q l key n).length ≤ 50 := by
  unfold plaL
  split
  · rename_i hok
    have hq := (shOk_iff.1 hok).quo
    split
    · unfold kept
      rw [List.length_take]
      have := (keepN_ok (q := q) (l := allI key n l) (by omega) (allI key n l).length).2
      omega
    · exact (shOk_iff.1 hok).len
  · exact Nat.zero_le _
theorem plaL_short (N : Nat) (q : Int) (l : List It) (key : ByteArray) (n : Int) (h : ∀ x ∈ l, x.1.size ≤ N) (hk : key.size ≤ N) : ∀ x ∈ plaL q l key n, x.1.size ≤ N := by
  intro x hx
  unfold plaL at hx
  split at hx
  · split at hx
    · unfold kept at hx
      have hx := List.mem_of_mem_take hx
      unfold allI at hx
      rcases List.mem_cons.1 hx with rfl | e
      · exact hk
      · exact h x (List.mem_filter.1 e).1
    · exact h x hx
  · cases hx
theorem TwoB.bs {b : Nat} {w w' : World} {m : Nat} {x y : Value} (h : TwoB w m x y) (hb : Beside b w w') (hne : m ≠ b) : TwoB w' m x y := by
  have e := hb.2.2.2.2 m h.lt hne
  exact ⟨besideCell hb hne h.c0, besideCell hb hne h.c1, by have := h.f0; unfold World.frozen? at *; rw [e]; exact this, by have := h.f1; unfold World.frozen? at *; rw [e]; exact this, Nat.lt_of_lt_of_le h.lt hb.2.2.2.1⟩
theorem TwoB.set {w : World} {b : Nat} {x y : Value} (h : TwoB w b x y) (x' y' : Value) : TwoB ((w.setCell ⟨b, 0, none⟩ x').setCell ⟨b, 1, none⟩ y') b x' y' := by
  refine ⟨?_, ?_, by rw [World.frozen?_setCell, World.frozen?_setCell]; exact h.f0, by rw [World.frozen?_setCell, World.frozen?_setCell]; exact h.f1, by simpa [World.setCell] using h.lt⟩
  · rw [World.cell?_setCell_other _ _ _ _ (by simp)]; exact World.cell?_setCell_same _ _ _ h.c0
  · exact World.cell?_setCell_same _ _ _ (by rw [World.cell?_setCell_other _ _ _ _ (by simp)]; exact h.c1)
/-- A shelf in a box of one's own, beside the code. -/
structure Dw (w W : World) (b : Nat) (sa : Option Addr) (sl sc : Nat) (m : Nat) (q : Int) (u : Value) (l : List It) : Prop where
  cur : Cur W b sa sl sc
  bs : Beside b w W
  r : TwoB W w.heap.size (.int .i64 0) (.slice none 0 0)
  bx : TwoB W m (.int .i64 q) u
  own : OwnsI8 W (m + 1) u l
  mb : w.heap.size < m
  bb : b < w.heap.size
theorem Dw.beside {w W W' : World} {b : Nat} {sa : Option Addr} {sl sc m : Nat} {q : Int} {u : Value} {l : List It} (h : Dw w W b sa sl sc m q u l) (hc : Cur W' b sa sl sc) (hb : Beside b W W') : Dw w W' b sa sl sc m q u l := by
  have h1 := h.mb; have h2 := h.bb
  exact ⟨hc, h.bs.trans hb, h.r.bs hb (by omega), h.bx.bs hb (by omega), h.own.bsN hb (by omega), h.mb, h.bb⟩
theorem Dw.below {w W W' : World} {b : Nat} {sa : Option Addr} {sl sc m : Nat} {q : Int} {u : Value} {l : List It} (h : Dw w W b sa sl sc m q u l) (hb : Below W.heap.size W W') : Dw w W' b sa sl sc m q u l := by
  exact ⟨h.cur.kept hb h.cur.2.2.1, h.bs.below hb, h.r.kept hb h.r.lt, h.bx.kept hb h.bx.lt, h.own.kept hb, h.mb, h.bb⟩
theorem Dw.more {w W : World} {b : Nat} {sa : Option Addr} {sl sc m : Nat} {q : Int} {u : Value} {l : List It} (h : Dw w W b sa sl sc m q u l) (o : Obj) : Dw w (W.alloc o) b sa sl sc m q u l := h.below ((Below.refl _ W).alloc (Nat.le_refl _) _)
theorem Dw.drew {w W : World} {b : Nat} {sa : Option Addr} {sl sc m : Nat} {q : Int} {u : Value} {l : List It} (h : Dw w W b sa sl sc m q u l) : Dw w W.drew b sa sl sc m q u l := h.below ⟨rfl, rfl, rfl, Nat.le_refl _, fun _ _ => rfl⟩
/-- Another shelf is put into the box. -/
theorem Dw.put {w W : World} {b : Nat} {sa : Option Addr} {sl sc m : Nat} {q q' : Int} {u u' : Value} {l l' : List It} (h : Dw w W b sa sl sc m q u l) (ho : OwnsI8 W (m + 1) u' l') : Dw w ((W.setCell ⟨m, 0, none⟩ (.int .i64 q')).setCell ⟨m, 1, none⟩ u') b sa sl sc m q' u' l' := by
  have h1 := h.mb; have h2 := h.bb
  have k : Below m W ((W.setCell ⟨m, 0, none⟩ (.int .i64 q')).setCell ⟨m, 1, none⟩ u') := ((Below.refl m W).setCell (p := ⟨m, 0, none⟩) (Nat.le_refl m) _).setCell (p := ⟨m, 1, none⟩) (Nat.le_refl m) _
  exact ⟨h.cur.kept k (by omega), h.bs.grow k (by omega), h.r.kept k (by omega), h.bx.set _ _, ho.two (fun k hk => by have := ho.from k hk; omega) _ _, h.mb, h.bb⟩
theorem Dw.out {w W : World} {b : Nat} {sa : Option Addr} {sl sc m : Nat} {q : Int} {u : Value} {l : List It} (h : Dw w W b sa sl sc m q u l) (x : Value) : OwnsI8 ((W.setCell ⟨w.heap.size, 0, none⟩ x).setCell ⟨w.heap.size, 1, none⟩ u) w.heap.size u l ∧ Cur ((W.setCell ⟨w.heap.size, 0, none⟩ x).setCell ⟨w.heap.size, 1, none⟩ u) b sa sl sc ∧ Beside b w ((W.setCell ⟨w.heap.size, 0, none⟩ x).setCell ⟨w.heap.size, 1, none⟩ u) := by
  have h1 := h.mb; have h2 := h.bb
  have k : Below w.heap.size W ((W.setCell ⟨w.heap.size, 0, none⟩ x).setCell ⟨w.heap.size, 1, none⟩ u) := ((Below.refl w.heap.size W).setCell (p := ⟨w.heap.size, 0, none⟩) (Nat.le_refl _) _).setCell (p := ⟨w.heap.size, 1, none⟩) (Nat.le_refl _) _
  exact ⟨(h.own.two (fun k hk => by have := h.own.from k hk; omega) _ _).low (by omega), h.cur.kept k h.bb, h.bs.grow k (Nat.le_refl _)⟩
theorem tab5 (x : Nat) (hx : x < 5) : ∃ T : ByteArray, (∀ W : World, (W.alloc (.cells #[.string ⟨#[97]⟩, .string ⟨#[98]⟩, .string ⟨#[99]⟩, .string ⟨#[100]⟩, .string ⟨#[101]⟩] 9)).cell? ⟨W.heap.size, x, none⟩ = some (.string T)) ∧ T.size ≤ 19 := by
  rcases (show x = 0 ∨ x = 1 ∨ x = 2 ∨ x = 3 ∨ x = 4 by omega) with rfl | rfl | rfl | rfl | rfl <;> exact ⟨_, fun W => by rw [World.cell?_alloc_mark]; rfl, by decide⟩
end Go.Proofs.Ytnnmbgenepfacaa

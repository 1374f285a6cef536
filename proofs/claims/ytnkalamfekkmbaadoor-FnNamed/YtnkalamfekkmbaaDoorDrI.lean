/-
  The drawing functions of chapter 4: whatever the code, they answer few small fields, a short name, a short text.
-/
import Derived.Test.YtnkalamfekkmbaaDoorDrH
import Derived.Test.YtnkalamfekkmbaaDoorFldW
namespace Go.Proofs.YtnkalamfekkmbaaDoor
open Go.RowKit Go.Sort

/-- What a drawing function of fields answers. -/
def DrawsF (w w' : World) (u : Value) (l : List Fl) : Prop := OwnsF w' w.heap.size u l ∧ SmallF l ∧ Below w.heap.size w w'

theorem drawFlds (sa : Option Addr) (sl sc : Nat) (w : World) (hc : Code8 w w.heap.size sa sl) (hl : sl ≤ 4096) :
    Calls Tryd.prog 41 #[.slice sa sl sc] w fun e w' => ∃ u l, e = .returned u ∧ DrawsF w w' u l := by
  go_enter Tryd.func41, Tryd.ntmps41
  go_wp2_with fail
  refine (l1New sa sl sc w hc hl).mono ?_
  rintro e w1 ⟨rfl, hc1, hb1⟩
  go_wp2_with fail
  refine (l4Draw w.heap.size sa sl sc w1 hc1).mono ?_
  rintro e w2 ⟨⟨u, l, rfl, ho2, hsm⟩, hc2, hb2⟩
  go_wp2
  go_ret
  exact ⟨u, l, rfl, ho2.low hb1.size, hsm, hb1.trans (hb2.low (Nat.le_refl _) hb1.size)⟩
theorem drawShow (sa : Option Addr) (sl sc : Nat) (w : World) (hc : Code8 w w.heap.size sa sl) (hl : sl ≤ 4096) :
    Calls Tryd.prog 13 #[.slice sa sl sc] w fun e w' => ∃ u l, e = .returned u ∧ DrawsF w w' u l := by
  go_enter Tryd.func13, Tryd.ntmps13
  go_wp2_with (go_at_call 41; refine (drawFlds sa sl sc _ hc hl).mono ?_; rintro e w1 ⟨u, l, rfl, h⟩)
  go_ret
  exact ⟨u, l, rfl, h⟩
theorem drawHop (sa : Option Addr) (sl sc : Nat) (w : World) (hc : Code8 w w.heap.size sa sl) (hl : sl ≤ 4096) :
    Calls Tryd.prog 27 #[.slice sa sl sc] w fun e w' => ∃ u l, e = .returned u ∧ DrawsF w w' u l := by
  go_enter Tryd.func27, Tryd.ntmps27
  go_wp2_with (go_at_call 41; refine (drawFlds sa sl sc _ hc hl).mono ?_; rintro e w1 ⟨u, l, rfl, h⟩)
  go_ret
  exact ⟨u, l, rfl, h⟩

def tabG : Array Value := #[.string ⟨#[97]⟩, .string ⟨#[65, 67, 67, 69, 80, 84]⟩, .string ⟨#[65, 99, 99, 101, 112, 116]⟩, .string ⟨#[120, 45, 98]⟩, .string ⟨#[122, 122]⟩, .string ⟨#[]⟩]
theorem tabG_at (x : Nat) (h : x < 6) : ∃ s : ByteArray, tabG[x]? = some (.string s) ∧ s.size ≤ 6 := by
  rcases (show x = 0 ∨ x = 1 ∨ x = 2 ∨ x = 3 ∨ x = 4 ∨ x = 5 by omega) with rfl | rfl | rfl | rfl | rfl | rfl <;> exact ⟨_, rfl, by decide⟩
theorem tab_cell {w : World} {g k : Nat} {tab : Array Value} {s : ByteArray} (h : w.heap[g]? = some (.cells tab 9)) (hs : tab[k]? = some (.string s)) : w.cell? ⟨g, k, none⟩ = some (.string s) := by
  rw [cell_of_row w g k _ _ _ h]; exact hs

set_option maxRecDepth 100000 in
set_option maxHeartbeats 2000000 in
theorem drawGet (sa : Option Addr) (sl sc : Nat) (w : World) (hc : Code8 w w.heap.size sa sl) (hl : sl ≤ 4096) :
    Calls Tryd.prog 25 #[.slice sa sl sc] w fun e w' => ∃ u l, ∃ s : ByteArray, e = .returned (.tuple #[u, .string s]) ∧ DrawsF w w' u l ∧ s.size ≤ 6 := by
  have hent1 : ∀ args w, (callFunc 49 args).run Tryd.prog w = .ok (.enter 49 args) w := Go.Proofs.enters_of Tryd.func49 (by kernel_rfl) rfl
  have hent2 : ∀ args w, (callFunc 57 args).run Tryd.prog w = .ok (.enter 57 args) w := Go.Proofs.enters_of Tryd.func57 (by kernel_rfl) rfl
  go_enter Tryd.func25, Tryd.ntmps25
  go_wp2_with fail
  refine (l1New sa sl sc w hc hl).mono ?_
  rintro e w1 ⟨rfl, hc1, hb1⟩
  have hz1 : w.heap.size < w1.heap.size := hc1.2.2.1
  have hca : Cur (w1.drew.alloc (.cells tabG 9)) w.heap.size sa sl sc := (show Cur w1.drew w.heap.size sa sl sc from hc1).kept ((Below.refl _ w1.drew).alloc (Nat.le_refl _) _) hz1
  have ta : (w1.drew.alloc (.cells tabG 9)).heap[w1.heap.size]? = some (.cells tabG 9) := heap_alloc_new w1.drew (.cells tabG 9)
  go_wp2_with fail
  go_region_law (first
    | (refine step_call1 rfl 49 (.tmp 7) _ rfl (.pointer (some ⟨w.heap.size, 0, none⟩)) (by first | rfl | (simp [Act.eval]; done)) (hent1 _) (fun u y => ∃ l, OwnsF y w1.drew.heap.size u l ∧ SmallF l ∧ Cur y w.heap.size sa sl sc ∧ Beside w.heap.size w1.drew y) ((l4Draw w.heap.size sa sl sc w1.drew hc1).mono fun e y ⟨⟨u, l, he, h1, h2⟩, h3, h4⟩ => ⟨u, he, l, h1, h2, h3, h4⟩) ?_; rintro u2 w2 ⟨l, ho2', hsm, hc2, hb2⟩; have ho2 := ho2'.low (B' := w.heap.size + 1) hz1; have hbw2 := hb1.trans ((show Beside w.heap.size w1 w2 from hb2).low (Nat.le_refl _) hb1.size))
    | (refine step_call1 rfl 49 (.tmp 7) _ rfl (.pointer (some ⟨w.heap.size, 0, none⟩)) (by first | rfl | (simp [Act.eval]; done)) (hent1 _) (fun u y => ∃ l, OwnsF y (w1.drew.alloc (.cells tabG 9)).heap.size u l ∧ SmallF l ∧ Cur y w.heap.size sa sl sc ∧ Beside w.heap.size (w1.drew.alloc (.cells tabG 9)) y) ((l4Draw w.heap.size sa sl sc (w1.drew.alloc (.cells tabG 9)) hca).mono fun e y ⟨⟨u, l, he, h1, h2⟩, h3, h4⟩ => ⟨u, he, l, h1, h2, h3, h4⟩) ?_; rintro u2 w2 ⟨l, ho2', hsm, hc2, hb2⟩; have ho2 := ho2'.low (B' := w.heap.size + 1) (by simp; omega); have hbw2 := (hb1.alloc hb1.size (.cells tabG 9)).trans ((show Beside w.heap.size (w1.alloc (.cells tabG 9)) w2 from hb2).low (Nat.le_refl _) (Nat.le_trans hb1.size (by simp))))
    | (refine step_call2 rfl 57 (.tmp 10) (.const (.int .i64 6)) _ rfl (.pointer (some ⟨w.heap.size, 0, none⟩)) (.int .i64 6) (by first | rfl | (simp [Act.eval]; done)) rfl (hent2 _) (fun u y => ∃ z : Int, u = .int .i64 z ∧ 0 ≤ z ∧ z < 6 ∧ Cur y w.heap.size sa sl sc ∧ Beside w.heap.size w2 y) ((l1Below w.heap.size sa sl sc 6 (by decide) (by decide) w2 hc2).mono fun e y ⟨z, he, h⟩ => ⟨_, he, z, rfl, h⟩) ?_; rintro u3 w3 ⟨z, rfl, h0, h1, hc3, hb3⟩; obtain ⟨k, rfl⟩ : ∃ k : Nat, z = k := ⟨z.toNat, by omega⟩; obtain ⟨s, hs, hss⟩ := tabG_at k (by omega); (first | (have cs := tab_cell (hb3.at (by show w1.heap.size ≠ w.heap.size; omega) (hb2.at (by show w1.heap.size ≠ w.heap.size; omega) ta)) hs) | (have csC := tab_cell (heap_alloc_new w3 (.cells tabG 9)) hs; unfold tabG at csC)); have ho3 := ho2.beside hb3 (Nat.lt_succ_self _); have hbw3 := hbw2.trans (hb3.low (Nat.le_refl _) hbw2.size))
    | (refine step_call2 rfl 57 (.tmp 10) (.const (.int .i64 6)) _ rfl (.pointer (some ⟨w.heap.size, 0, none⟩)) (.int .i64 6) (by first | rfl | (simp [Act.eval]; done)) rfl (hent2 _) (fun u y => ∃ z : Int, u = .int .i64 z ∧ 0 ≤ z ∧ z < 6 ∧ Cur y w.heap.size sa sl sc ∧ Beside w.heap.size (w2.alloc (.cells tabG 9)) y) ((l1Below w.heap.size sa sl sc 6 (by decide) (by decide) (w2.alloc (.cells tabG 9)) (hc2.kept ((Below.refl _ w2).alloc (Nat.le_refl _) _) hc2.2.2.1)).mono fun e y ⟨z, he, h⟩ => ⟨_, he, z, rfl, h⟩) ?_; rintro u3 w3 ⟨z, rfl, h0, h1, hc3, hb3⟩; obtain ⟨k, rfl⟩ : ∃ k : Nat, z = k := ⟨z.toNat, by omega⟩; obtain ⟨s, hs, hss⟩ := tabG_at k (by omega); have cs := tab_cell (hb3.at (by have := hc2.2.2.1; omega) (heap_alloc_new w2 (.cells tabG 9))) hs; have ho3 := (ho2.alloc (.cells tabG 9)).beside hb3 (Nat.lt_succ_self _); have hbw3 := (hbw2.alloc hbw2.size (.cells tabG 9)).trans (hb3.low (Nat.le_refl _) (Nat.le_trans hbw2.size (by simp)))))
  all_goals
    go_wp2
    go_ret2
    exact ⟨_, l, s, rfl, ⟨by first | exact ho3.low (Nat.le_succ _) | exact (ho3.alloc _).low (Nat.le_succ _), hsm, by first | exact hbw3 | exact hbw3.alloc hbw3.size _⟩, hss⟩

theorem drawWo (sa : Option Addr) (sl sc : Nat) (w : World) (hc : Code8 w w.heap.size sa sl) (hl : sl ≤ 4096) :
    Calls Tryd.prog 29 #[.slice sa sl sc] w fun e w' => ∃ u l, ∃ s : ByteArray, e = .returned (.tuple #[u, .string s]) ∧ DrawsF w w' u l ∧ s.size ≤ 6 := by
  go_enter Tryd.func29, Tryd.ntmps29
  go_wp2_with (go_at_call 25; refine (drawGet sa sl sc _ hc hl).mono ?_; rintro e w1 ⟨u, l, s, rfl, h, hs⟩)
  go_ret2
  exact ⟨u, l, s, rfl, h, hs⟩

set_option maxHeartbeats 1000000 in
theorem drawWith (sa : Option Addr) (sl sc : Nat) (w : World) (hc : Code8 w w.heap.size sa sl) (hl : sl ≤ 4096) :
    Calls Tryd.prog 23 #[.slice sa sl sc] w fun e w' => ∃ u l, ∃ n x : ByteArray, e = .returned (.tuple #[u, .string n, .string x]) ∧ DrawsF w w' u l ∧ n.size ≤ 10 ∧ x.size ≤ 7 := by
  go_enter Tryd.func23, Tryd.ntmps23
  go_wp2_with fail
  refine (l1New sa sl sc w hc hl).mono ?_
  rintro e w1 ⟨rfl, hc1, hb1⟩
  have hz1 : w.heap.size < w1.heap.size := hc1.2.2.1
  go_wp2_with fail
  refine (l4Draw w.heap.size sa sl sc w1 hc1).mono ?_
  rintro e w2 ⟨⟨u, l, rfl, ho2, hsm⟩, hc2, hb2⟩
  have hbw2 := hb1.trans (hb2.low (Nat.le_refl _) hb1.size)
  go_wp2_with fail
  refine (l4DrawField w.heap.size sa sl sc w2 hc2).mono ?_
  rintro e w3 ⟨⟨f, rfl, hf1, hf2⟩, hc3, hb3⟩
  have ho3 := (ho2.low (B' := w.heap.size + 1) hz1).beside hb3 (Nat.lt_succ_self _)
  have hbw3 := hbw2.trans (hb3.low (Nat.le_refl _) hbw2.size)
  have ho4 := (ho3.low (Nat.le_succ _)).alloc (.cells #[.string f.1, .string f.2] 53)
  have hbw4 := hbw3.alloc hbw3.size (.cells #[.string f.1, .string f.2] 53)
  clear hc1 hc2 hc3 hb1 hb2 hb3 ho2 ho3 hbw2 hbw3
  go_wp2
  go_quiet (fail)
  go_wp2
  go_ret3
  exact ⟨u, l, f.1, f.2, rfl, ⟨ho4, hsm, ⟨hbw4.os, hbw4.tape, hbw4.output, hbw4.size, hbw4.block⟩⟩, hf1, hf2⟩

theorem SmallF.show {l : List Fl} (h : SmallF l) : (showA l).size ≤ 700 := by
  unfold showA
  split
  · have : ∀ (l : List Fl), (∀ f ∈ l, f.1.size ≤ 10 ∧ f.2.size ≤ 7) → (showL l).length ≤ 21 * l.length := by
      intro l
      induction l with
      | nil => intro _; exact Nat.zero_le _
      | cons f l ih =>
        intro h
        have h1 := h f (by simp)
        have h2 := ih fun g hg => h g (by simp [hg])
        have e : showL (f :: l) = showF f ++ showL l := by simp [showL]
        rw [e, List.length_append, showF_length, List.length_cons]
        omega
    have h2 := this l h.2
    have h3 := h.1
    rw [txt_size]
    omega
  · exact Nat.zero_le _

set_option maxHeartbeats 1000000 in
theorem drawRead (sa : Option Addr) (sl sc : Nat) (w : World) (hc : Code8 w w.heap.size sa sl) (hl : sl ≤ 4096) :
    Calls Tryd.prog 21 #[.slice sa sl sc] w fun e w' => ∃ t : ByteArray, e = .returned (.string t) ∧ t.size ≤ 1000 ∧ Below w.heap.size w w' := by
  go_enter Tryd.func21, Tryd.ntmps21
  go_wp2_with fail
  refine (l1New sa sl sc w hc hl).mono ?_
  rintro e w1 ⟨rfl, hc1, hb1⟩
  have hz1 : w.heap.size < w1.heap.size := hc1.2.2.1
  go_wp2_with fail
  refine (l4Draw w.heap.size sa sl sc w1 hc1).mono ?_
  rintro e w2 ⟨⟨u, l, rfl, ho2, hsm⟩, hc2, hb2⟩
  have hbw2 := hb1.trans (hb2.low (Nat.le_refl _) hb1.size)
  have hsz := hsm.sz
  have hsh := hsm.show
  go_wp2_with fail
  refine (specShow u l w2 ho2.fls (by omega)).mono ?_
  rintro e w3 ⟨rfl, hb3⟩
  have hbw3 := hbw2.trans (hb3.mono hbw2.size)
  have hc3 := hc2.kept hb3 hc2.2.2.1
  generalize showA l = sh at hsh
  have zz : (sh ++ (⟨#[13, 10]⟩ : ByteArray)).size = sh.size + 2 := by rw [ByteArray.size_append]; rfl
  clear hc1 hc2 hb1 hb2 hb3 ho2 hsm hbw2 hsz
  go_wp2_with fail
  refine (l1DrawText w.heap.size sa sl sc ⟨#[97, 98]⟩ 3 (by decide) (by decide) (by decide) w3 hc3).mono ?_
  rintro e w4 ⟨t, rfl, ht, hc4, hb4⟩
  have hbw4 := hbw3.trans (hb4.low (Nat.le_refl _) hbw3.size)
  have zt : (sh ++ (⟨#[13, 10]⟩ : ByteArray) ++ t).size = sh.size + 2 + t.size := by rw [ByteArray.size_append, zz]
  go_wp2_with fail
  refine (l1Once w.heap.size sa sl sc 2 (by decide) (by decide) w4 hc4).mono ?_
  rintro e w5 ⟨tt, rfl, hc5, hb5⟩
  have hbw5 := hbw4.trans (hb5.low (Nat.le_refl _) hbw4.size)
  generalize sh ++ (⟨#[13, 10]⟩ : ByteArray) ++ t = y at zt
  cases tt with
  | false =>
    go_wp2
    go_ret
    exact ⟨y, rfl, by omega, hbw5⟩
  | true =>
    go_wp2_with fail
    refine (l1Bend w.heap.size sa sl sc y ⟨#[97, 58, 32, 13, 10, 9]⟩ (by omega) (by decide) (by decide) w5 hc5).mono ?_
    rintro e w6 ⟨y2, rfl, hy2, hc6, hb6⟩
    go_wp2
    go_ret
    exact ⟨y2, rfl, by omega, hbw5.trans (hb6.low (Nat.le_refl _) hbw5.size)⟩
end Go.Proofs.YtnkalamfekkmbaaDoor

/-
  Drawn lists of spans: whatever the code, few spans of int64.
-/
import Derived.Test.YtamfgjgmnnnjpaaSpnM
import Derived.Test.YtamfgjgmnnnjpaaDrT
namespace Go.Proofs.Ytamfgjgmnnnjpaa
open Go.RowKit Go.Sort
set_option linter.unusedVariables false

theorem OwnsE.bs {α : Type} {E : Enc α} {ty : TypeId} {w w' : World} {B b : Nat} {v : Value} {l : List α} (h : OwnsE E ty w B v l) (hb : Beside b w w') (hB : b < B) : OwnsE E ty w' B v l := by
  refine ⟨h.1, ?_⟩
  rcases h.2 with h0 | ⟨g, cap, cur, hv, hbg, hg, rest⟩
  · exact .inl h0
  · exact .inr ⟨g, cap, cur, hv, hbg, by rw [hb.2.2.2.2 g (Array.getElem?_eq_some_iff.1 hg).1 (by omega)]; exact hg, rest⟩
theorem Cur.more8 {w : World} {b : Nat} {sa : Option Addr} {sl sc : Nat} (h : Cur w b sa sl sc) (o : Obj) : Cur (w.alloc o) b sa sl sc := h.kept ((Below.refl _ w).alloc (Nat.le_refl _) _) h.2.2.1
theorem Beside.more8 {g : Nat} {a w : World} (h : Beside g a w) (o : Obj) : Beside g a (w.alloc o) := h.below ((Below.refl _ w).alloc (Nat.le_refl _) _)
theorem Code8.up8 {w : World} {b b' : Nat} {sa : Option Addr} {sl : Nat} (h : Code8 w b sa sl) (hb : b ≤ b') : Code8 w b' sa sl := by
  intro j hj
  obtain ⟨g, o, z, h1, h2, h3⟩ := h j hj
  exact ⟨g, o, z, h1, by omega, h3⟩
theorem l1FromZ (b : Nat) (sa : Option Addr) (sl sc : Nat) (lo hi : Int) (h1 : -1000 ≤ lo) (h2 : lo ≤ hi) (h3 : hi ≤ 1000) (w : World) (hc : Cur w b sa sl sc) :
    Calls Try.prog 35 #[.pointer (some ⟨b, 0, Option.none⟩), .int .i64 lo, .int .i64 hi] w fun e w' => ∃ x : Int, e = .returned (.int .i64 x) ∧ lo ≤ x ∧ x ≤ hi ∧ Cur w' b sa sl sc ∧ Beside b w w' := by
  have e1 : IntKind.i64.wrap (hi - lo) = hi - lo := by rw [IntKind.wrap_i64]; omega
  have e2 : IntKind.i64.wrap (hi - lo + 1) = hi - lo + 1 := by rw [IntKind.wrap_i64]; omega
  have hB := fun W hW => l1Below b sa sl sc (hi - lo + 1) (by omega) (by omega) W hW
  go_enter Try.func35, Try.ntmps35
  go_wp2_with fail
  refine (hB _ hc).mono ?_
  rintro e w1 ⟨x, rfl, hx0, hx1, hc1, hb1⟩
  have e3 : IntKind.i64.wrap (lo + x) = lo + x := by rw [IntKind.wrap_i64]; omega
  clear hB hc
  go_wp2
  go_ret
  exact ⟨_, rfl, by omega, by omega, hc1, hb1⟩
/-- One more drawn span behind those that there are: what stays, and what is there. -/
theorem drawn_push {w w4 w6 : World} {b : Nat} {sa : Option Addr} {sl sc : Nat} {o : Obj} {v : Value} {l : List Sp} (hc : Cur w4 b sa sl sc) (hb : Beside b w w4) (hbz : b < w.heap.size) (hown : OwnsS8 w4 w.heap.size v l) (hg : (w4.alloc o).grownBy w6 v.ownBlock) : Cur w6 b sa sl sc ∧ Beside b w w6 := by
  have h1 : Below w.heap.size w4 w6 := belowE ((Below.refl _ w4).alloc hb.2.2.2.1 _) hg (by have := hb.2.2.2.1; simp; omega) hown.from
  exact ⟨hc.kept h1 hbz, hb.grow h1 (Nat.le_refl _)⟩
def Few (l : List Sp) (n : Nat) : Prop := l.length ≤ n ∧ ∀ x ∈ l, InR x
theorem Few.more {l : List Sp} {n : Nat} (h : Few l n) {x : Sp} (hx : InR x) : Few (l ++ [x]) (n + 1) :=
  ⟨by have := h.1; simp; omega, fun y hy => by rcases List.mem_append.1 hy with hy | hy; exact h.2 y hy; rw [List.mem_singleton.1 hy]; exact hx⟩
theorem Few.up {l : List Sp} {n m : Nat} (h : Few l n) (hm : n ≤ m) : Few l m := ⟨Nat.le_trans h.1 hm, h.2⟩
def isI8 (v : Value) : Bool := match v with | .int .i64 z => decide (-9223372036854775808 ≤ z ∧ z ≤ 9223372036854775807) | _ => false
theorem isI8_out {v : Value} (h : isI8 v = true) : ∃ z : Int, v = .int .i64 z ∧ -9223372036854775808 ≤ z ∧ z ≤ 9223372036854775807 := by
  unfold isI8 at h
  split at h
  · exact ⟨_, rfl, of_decide_eq_true h⟩
  · cases h
theorem tabI8 {b : Nat} {w w' : World} {C : Array Value} {t : TypeId} (hb : Beside b (w.alloc (.cells C t)) w') (hne : w.heap.size ≠ b) (y : Nat) (hy : y < C.size) (hall : C.toList.all isI8 = true) : ∃ z : Int, w'.cell? ⟨w.heap.size, y, Option.none⟩ = some (.int .i64 z) ∧ -9223372036854775808 ≤ z ∧ z ≤ 9223372036854775807 := by
  have hm : C[y] ∈ C.toList := by simp
  obtain ⟨z, hz, hs⟩ := isI8_out (List.all_eq_true.1 hall _ hm)
  refine ⟨z, besideCell hb hne ?_, hs⟩
  rw [World.cell?_alloc_mark, Array.getElem?_eq_getElem hy, hz]
theorem sl_of {w : World} {B : Nat} {v : Value} {l : List Sp} (h : OwnsS8 w B v l) (hl : 0 < l.length) : ∃ g c, v = .slice (some ⟨g, 0, Option.none⟩) l.length c := by
  obtain ⟨a, c, rfl, h1, h2, h3⟩ := h.form
  rcases h3 with ⟨rfl, rfl⟩ | ⟨g, rfl⟩
  · omega
  · exact ⟨g, c, rfl⟩
def lenV8 (v : Value) : Nat := match v with | .slice _ n _ => n | _ => 0
set_option maxRecDepth 100000 in
set_option maxHeartbeats 8000000 in
theorem l8Draw (b : Nat) (sa : Option Addr) (sl sc : Nat) (w : World) (hc : Cur w b sa sl sc) :
    Calls Try.prog 23 #[.pointer (some ⟨b, 0, Option.none⟩)] w fun e w' => (∃ u l, e = .returned u ∧ OwnsS8 w' w.heap.size u l ∧ Few l 20) ∧ Cur w' b sa sl sc ∧ Beside b w w' := by
  have hbz : b < w.heap.size := hc.2.2.1
  go_enter Try.func23, Try.ntmps23
  go_wp2_with fail
  refine (l1Below b sa sl sc 5 (by decide) (by decide) _ (hc.more8 _)).mono ?_
  rintro e w1 ⟨x, rfl, hx0, hx1, hc1, hb1⟩
  obtain ⟨x, rfl⟩ := Int.eq_ofNat_of_zero_le hx0
  have O1 : Hid (OwnsS8 w1 w.heap.size (.slice (some ⟨w.heap.size, 0, Option.none⟩) 0 0) []) := (OwnsE.born w).bs hb1 hbz
  have B1 : Hid (Beside b w w1) := ((Beside.refl b w).more8 _).trans hb1
  clear hb1 hc
  go_wp2_with fail
  go_loopw [3, 4] (fun u n wr => ∃ (k : Nat) (l : List Sp) (g c : Nat), n = .int .i64 k ∧ k ≤ 4 ∧ u = .slice (some ⟨g, 0, Option.none⟩) l.length c ∧ Hid (OwnsS8 wr w.heap.size u l) ∧ Hid (Cur wr b sa sl sc) ∧ Hid (Beside b w wr) ∧ Hid (∀ x ∈ l, InR x) ∧ l.length + k ≤ 4) (fun _ n _ => (intOf n).toNat)
  case atStart => exact ⟨x, [], _, _, rfl, by omega, rfl, O1, hc1, B1, fun x hx => (by cases hx), by simp <;> omega⟩
  case round =>
    clear O1 B1 hc1
    obtain ⟨k, l, g, c, rfl, hk4, rfl, ho, hc, hb, hin, hlk⟩ := hrel
    by_cases hk : 0 < k
    · go_wp2_with fail
      refine (l1Below b sa sl sc 20 (by decide) (by decide) _ hc.out).mono ?_
      rintro e w2 ⟨p, rfl, hp0, hp1, hc2, hb2⟩
      have O2 : Hid (OwnsS8 w2 w.heap.size (.slice (some ⟨g, 0, Option.none⟩) l.length c) l) := ho.out.bs hb2 hbz
      have B2 : Hid (Beside b w w2) := hb.out.trans hb2
      clear hb2 ho hc hb
      go_wp2_with fail
      refine (l1Below b sa sl sc 6 (by decide) (by decide) _ hc2).mono ?_
      rintro e w3 ⟨q, rfl, hq0, hq1, hc3, hb3⟩
      have O3 : Hid (OwnsS8 w3 w.heap.size (.slice (some ⟨g, 0, Option.none⟩) l.length c) l) := O2.out.bs hb3 hbz
      have B3 : Hid (Beside b w w3) := B2.out.trans hb3
      have C3 : Hid (Cur w3 b sa sl sc) := hc3
      have hz3 : w.heap.size ≤ w3.heap.size := B3.out.2.2.2.1
      have ep : IntKind.i64.wrap (p + q) = p + q := by rw [IntKind.wrap_i64]; omega
      clear hb3 O2 hc2 B2 hc3
      go_wp2_with (at_builtin; refine wpList_rowE (E := spnE) _ rfl (.tmp 15) (.tmp 22) 24 30 (.agg #[.int .i64 0, .int .i64 0]) 16 Try.underlying24 Try.infoSP rfl rfl w.heap.size _ l (by simp [Act.eval]) (O3.out.alloc _) ⟨w3.heap.size, 0, Option.none⟩ 1 [(p, p + q)] (by simp [Act.eval]) (fresh_cell w3 (p, p + q) #[.int .i64 p, .int .i64 (p + q)] 30 rfl) (by simp only [List.length_singleton]; unfold maxLen; omega) (by simp only [List.length_singleton]; omega) (by simp; omega) ?_; intro v6 w6 ho6 hg6 hn6; have O6 : Hid (OwnsS8 w6 w.heap.size v6 (l ++ [(p, p + q)])) := ho6; have G6 : Hid _ := hg6; clear ho6 hg6 hn6)
      obtain ⟨c6, b6⟩ := drawn_push C3.out B3.out hbz O3.out G6.out
      have C6 : Hid (Cur w6 b sa sl sc) := c6
      have B6 : Hid (Beside b w w6) := b6
      have F6 : Hid (∀ x ∈ l ++ [(p, p + q)], InR x) := fun x hx => by
        rcases List.mem_append.1 hx with hx | hx
        · exact hin.out x hx
        · rw [List.mem_singleton.1 hx]; exact ⟨⟨by show _ ≤ p; omega, by show p ≤ _; omega⟩, by show _ ≤ p + q; omega, by show p + q ≤ _; omega⟩
      obtain ⟨g6, c6', rfl⟩ := sl_of O6.out (by simp)
      clear G6 c6 b6
      go_roundw
      case rel => exact ⟨k - 1, l ++ [(p, p + q)], g6, c6', by go_num, by omega, rfl, O6, C6, B6, F6, by simp; omega⟩
      case measure => simp [intOf]; omega
    · have F0 : Hid (Few l 4) := ⟨by omega, hin.out⟩
      have hl4 : l.length ≤ 4 := by omega
      clear hin
      go_wp2_with fail
      refine (l1Once b sa sl sc 12 (by decide) (by decide) _ hc.out).mono ?_
      rintro e w2 ⟨tt, rfl, hc2, hb2⟩
      have O2 : Hid (OwnsS8 w2 w.heap.size (.slice (some ⟨g, 0, Option.none⟩) l.length c) l) := ho.out.bs hb2 hbz
      have B2 : Hid (Beside b w w2) := hb.out.trans hb2
      have C2 : Hid (Cur w2 b sa sl sc) := hc2
      clear hb2 ho hc hb hc2
      cases tt with
      | false =>
        go_wp2
        go_ret
        exact ⟨⟨_, l, rfl, O2.out, F0.out.up (by omega)⟩, C2.out, B2.out⟩
      | true =>
        go_wp2_with fail
        refine (l1Below b sa sl sc 3 (by decide) (by decide) _ C2.out).mono ?_
        rintro e w3 ⟨y, rfl, hy0, hy1, hc3, hb3⟩
        obtain ⟨y, rfl⟩ := Int.eq_ofNat_of_zero_le hy0
        have O3 : Hid (OwnsS8 w3 w.heap.size (.slice (some ⟨g, 0, Option.none⟩) l.length c) l) := O2.out.bs hb3 hbz
        have B3 : Hid (Beside b w w3) := B2.out.trans hb3
        have C3 : Hid (Cur w3 b sa sl sc) := hc3
        clear hb3 hc3 O2 B2 C2
        have hz3 : w.heap.size ≤ w3.heap.size := B3.out.2.2.2.1
        rcases (show y = 0 ∨ y = 1 ∨ y = 2 by omega) with rfl | rfl | rfl
        · go_wp2_with fail
          refine (l1FromZ b sa sl sc (-2) 3 (by decide) (by decide) (by decide) _ C3.out).mono ?_
          rintro e w4 ⟨p, rfl, hp0, hp1, hc4, hb4⟩
          have O4 : Hid (OwnsS8 w4 w.heap.size (.slice (some ⟨g, 0, Option.none⟩) l.length c) l) := O3.out.bs hb4 hbz
          have B4 : Hid (Beside b w w4) := B3.out.trans hb4
          clear hb4 O3 B3 C3
          go_wp2_with fail
          refine (l1FromZ b sa sl sc (-2) 3 (by decide) (by decide) (by decide) _ hc4).mono ?_
          rintro e w5 ⟨q, rfl, hq0, hq1, hc5, hb5⟩
          have O5 : Hid (OwnsS8 w5 w.heap.size (.slice (some ⟨g, 0, Option.none⟩) l.length c) l) := O4.out.bs hb5 hbz
          have B5 : Hid (Beside b w w5) := B4.out.trans hb5
          have C5 : Hid (Cur w5 b sa sl sc) := hc5
          have hz5 : w.heap.size ≤ w5.heap.size := B5.out.2.2.2.1
          have F6 : Hid (Few (l ++ [(p, q)]) 5) := F0.out.more ⟨⟨by show _ ≤ p; omega, by show p ≤ _; omega⟩, by show _ ≤ q; omega, by show q ≤ _; omega⟩
          clear hb5 hc5 hc4 O4 B4
          go_wp2_with (at_builtin; refine wpList_rowE (E := spnE) _ rfl (.tmp 30) (.tmp 36) 24 30 (.agg #[.int .i64 0, .int .i64 0]) 16 Try.underlying24 Try.infoSP rfl rfl w.heap.size _ l (by simp [Act.eval]) (O5.out.alloc _) ⟨w5.heap.size, 0, Option.none⟩ 1 [(p, q)] (by simp [Act.eval]) (fresh_cell w5 (p, q) #[.int .i64 (p), .int .i64 (q)] 30 rfl) (by simp only [List.length_singleton]; unfold maxLen; omega) (by simp only [List.length_singleton]; omega) (by simp; omega) ?_; intro v6 w6 ho6 hg6 hn6; have O6 : Hid (OwnsS8 w6 w.heap.size v6 (l ++ [(p, q)])) := ho6; have G6 : Hid _ := hg6; clear ho6 hg6 hn6)
          obtain ⟨c6, b6⟩ := drawn_push C5.out B5.out hbz O5.out G6.out
          have C6 : Hid (Cur w6 b sa sl sc) := c6
          have B6 : Hid (Beside b w w6) := b6
          obtain ⟨g6, c6', rfl⟩ := sl_of O6.out (by simp)
          clear G6 c6 b6
          go_ret
          exact ⟨⟨_, _, rfl, O6.out, F6.out.up (by omega)⟩, C6.out, B6.out⟩
        · go_wp2_with fail
          refine (l1Below b sa sl sc 3 (by decide) (by decide) _ (C3.out.more8 _)).mono ?_
          rintro e w4 ⟨q, rfl, hq0, hq1, hc4, hb4⟩
          obtain ⟨q, rfl⟩ := Int.eq_ofNat_of_zero_le hq0
          obtain ⟨z, hz, hz1, hz2⟩ := tabI8 hb4 (by omega) q (by simp; omega) rfl
          have O4 : Hid (OwnsS8 w4 w.heap.size (.slice (some ⟨g, 0, Option.none⟩) l.length c) l) := (O3.out.alloc _).bs hb4 hbz
          have B4 : Hid (Beside b w w4) := (B3.out.more8 _).trans hb4
          have C4 : Hid (Cur w4 b sa sl sc) := hc4
          have hz4 : w.heap.size ≤ w4.heap.size := B4.out.2.2.2.1
          have F6 : Hid (Few (l ++ [(3, z)]) 5) := F0.out.more ⟨⟨by show (-9223372036854775808 : Int) ≤ 3; decide, by show (3 : Int) ≤ 9223372036854775807; decide⟩, hz1, hz2⟩
          clear hb4 hc4 O3 B3 C3
          go_wp2_with (at_builtin; refine wpList_rowE (E := spnE) _ rfl (.tmp 40) (.tmp 47) 24 30 (.agg #[.int .i64 0, .int .i64 0]) 16 Try.underlying24 Try.infoSP rfl rfl w.heap.size _ l (by simp [Act.eval]) (O4.out.alloc _) ⟨w4.heap.size, 0, Option.none⟩ 1 [(3, z)] (by simp [Act.eval]) (fresh_cell w4 (3, z) #[.int .i64 (3), .int .i64 (z)] 30 rfl) (by simp only [List.length_singleton]; unfold maxLen; omega) (by simp only [List.length_singleton]; omega) (by simp; omega) ?_; intro v6 w6 ho6 hg6 hn6; have O6 : Hid (OwnsS8 w6 w.heap.size v6 (l ++ [(3, z)])) := ho6; have G6 : Hid _ := hg6; clear ho6 hg6 hn6)
          obtain ⟨c6, b6⟩ := drawn_push C4.out B4.out hbz O4.out G6.out
          have C6 : Hid (Cur w6 b sa sl sc) := c6
          have B6 : Hid (Beside b w w6) := b6
          obtain ⟨g6, c6', rfl⟩ := sl_of O6.out (by simp)
          clear G6 c6 b6
          go_ret
          exact ⟨⟨_, _, rfl, O6.out, F6.out.up (by omega)⟩, C6.out, B6.out⟩
        · go_wp2_with fail
          go_loopw [3] (fun u wr => ∃ (l : List Sp) (g c : Nat), u = .slice (some ⟨g, 0, Option.none⟩) l.length c ∧ Hid (OwnsS8 wr w.heap.size u l) ∧ Hid (Cur wr b sa sl sc) ∧ Hid (Beside b w wr) ∧ Hid (∀ x ∈ l, InR x) ∧ l.length ≤ 11) (fun u _ => 12 - lenV8 u)
          case atStart => exact ⟨l, g, c, rfl, O3, C3, B3, F0.out.2, by omega⟩
          case round =>
            clear O3 C3 B3 F0 hl4 hz3 hk hlk hk4 hy0 hy1
            obtain ⟨l, g, c, rfl, ho, hc, hb, hin, hl⟩ := hrel
            go_wp2_with fail
            refine (l1Below b sa sl sc 2 (by decide) (by decide) _ hc.out).mono ?_
            rintro e w4 ⟨q, rfl, hq0, hq1, hc4, hb4⟩
            have O4 : Hid (OwnsS8 w4 w.heap.size (.slice (some ⟨g, 0, Option.none⟩) l.length c) l) := ho.out.bs hb4 hbz
            have B4 : Hid (Beside b w w4) := hb.out.trans hb4
            have C4 : Hid (Cur w4 b sa sl sc) := hc4
            have hz4 : w.heap.size ≤ w4.heap.size := B4.out.2.2.2.1
            have eq4 : IntKind.i64.wrap (10 + q) = 10 + q := by rw [IntKind.wrap_i64]; omega
            clear hb4 hc4 ho hc hb
            by_cases hlt : (l.length : Int) < 10 + q
            · have dl : decide ((l.length : Int) < 10 + q) = true := decide_eq_true hlt
              have F6 : Hid (∀ x ∈ l ++ [((2 : Int), (3 : Int))], InR x) := fun x hx => by
                rcases List.mem_append.1 hx with hx | hx
                · exact hin.out x hx
                · rw [List.mem_singleton.1 hx]; exact ⟨⟨by decide, by decide⟩, by decide, by decide⟩
              go_wp2_with (at_builtin; refine wpList_rowE (E := spnE) _ rfl (.tmp 57) (.tmp 59) 24 30 (.agg #[.int .i64 0, .int .i64 0]) 16 Try.underlying24 Try.infoSP rfl rfl w.heap.size _ l (by simp [Act.eval]) (O4.out.alloc _) ⟨w4.heap.size, 0, Option.none⟩ 1 [(2, 3)] (by simp [Act.eval]) (fresh_cell w4 (2, 3) #[.int .i64 (2), .int .i64 (3)] 30 rfl) (by simp only [List.length_singleton]; unfold maxLen; omega) (by simp only [List.length_singleton]; omega) (by simp; omega) ?_; intro v6 w6 ho6 hg6 hn6; have O6 : Hid (OwnsS8 w6 w.heap.size v6 (l ++ [(2, 3)])) := ho6; have G6 : Hid _ := hg6; clear ho6 hg6 hn6)
              obtain ⟨c6, b6⟩ := drawn_push C4.out B4.out hbz O4.out G6.out
              have C6 : Hid (Cur w6 b sa sl sc) := c6
              have B6 : Hid (Beside b w w6) := b6
              obtain ⟨g6, c6', rfl⟩ := sl_of O6.out (by simp)
              clear G6 c6 b6
              go_roundw
              case rel => exact ⟨l ++ [(2, 3)], g6, c6', rfl, O6, C6, B6, F6, by simp <;> omega⟩
              case measure => simp [lenV8] <;> omega
            · have dl : decide ((l.length : Int) < 10 + q) = false := decide_eq_false hlt
              go_wp2
              go_ret
              exact ⟨⟨_, l, rfl, O4.out, ⟨by omega, hin.out⟩⟩, C4.out, B4.out⟩
theorem drawMg (sa : Option Addr) (sl sc : Nat) (w : World) (hc : Code8 w w.heap.size sa sl) (hl : sl ≤ 4096) :
    Calls Try.prog 8 #[.slice sa sl sc] w fun e w' => (∃ u l, e = .returned u ∧ OwnsS8 w' w.heap.size u l ∧ Few l 20) ∧ Below w.heap.size w w' := by
  have hN := l1New sa sl sc w hc hl
  clear hc
  go_enter Try.func8, Try.ntmps8
  go_wp2_with fail
  refine hN.mono ?_
  rintro e w1 ⟨rfl, hc1, hb1⟩
  have hD := l8Draw _ sa sl sc w1 hc1
  have Z1 : Hid (w.heap.size < w1.heap.size) := hc1.2.2.1
  clear hc1
  go_wp2_with fail
  refine hD.mono ?_
  rintro e w2 ⟨⟨u, l, rfl, ho, hf⟩, _, hb2⟩
  have HB : Hid (Below w.heap.size w w2) := hb1.trans (hb2.low (Nat.le_refl _) (Nat.le_of_lt Z1.out))
  have HO : Hid (OwnsS8 w2 w.heap.size u l) := ho.low (Nat.le_of_lt Z1.out)
  clear hb2 hb1 hN hD ho
  go_wp2
  go_ret
  exact ⟨⟨u, l, rfl, HO.out, hf⟩, HB.out⟩
end Go.Proofs.Ytamfgjgmnnnjpaa

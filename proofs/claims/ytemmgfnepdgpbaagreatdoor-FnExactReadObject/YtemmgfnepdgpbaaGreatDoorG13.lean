/-
  Plain facts on messages: a message is read from what it is shown as, whatever stands behind it, and of no part of it; what is read is right.
  The specification's words of a line, by their contract.
  The program's cursor in a store's text: what is left, skipped, taken, a line.
-/
import Derived.Test.YtemmgfnepdgpbaaGreatDoorG11
import Derived.Test.YtemmgfnepdgpbaaGreatDoorG05
import Derived.Test.YtemmgfnepdgpbaaGreatDoorG12
import Derived.Test.YtemmgfnepdgpbaaGreatDoorShelfC
import Derived.Test.YtemmgfnepdgpbaaGreatDoorShelfE
import Derived.WalkKit
import Derived.WalkSpells
import Derived.Below
import Derived.Lib.QuietBelow
import Derived.Handy
import Derived.BigQuiet
namespace Go.Proofs.YtemmgfnepdgpbaaGreatDoor
open Go.RowKit

/-! ### Words -/
theorem wrdL_cons (c : UInt8) (r : List UInt8) : wrdL (c :: r) = if c = 32 then [] :: wrdL r else match wrdL r with
    | x :: xs => (c :: x) :: xs
    | [] => [[c]] := rfl
theorem wrdL_one : ∀ {x : List UInt8}, (∀ c ∈ x, c ≠ 32) → wrdL x = [x]
  | [], _ => rfl
  | c :: r, h => by
    have h1 := h c (by simp)
    have ih := wrdL_one (x := r) fun d hd => h d (by simp [hd])
    rw [wrdL_cons, if_neg h1, ih]
theorem wrdL_app : ∀ {x : List UInt8} (y : List UInt8), (∀ c ∈ x, c ≠ 32) → wrdL (x ++ 32 :: y) = x :: wrdL y
  | [], y, _ => by simp [wrdL]
  | c :: r, y, h => by
    have h1 := h c (by simp)
    have ih := wrdL_app (x := r) y fun d hd => h d (by simp [hd])
    show wrdL (c :: (r ++ 32 :: y)) = _
    rw [wrdL_cons, if_neg h1, ih]
/-! ### Lines -/
theorem lnS_clean : ∀ {x : List UInt8} (r : List UInt8), clean x → lnS (x ++ [13, 10] ++ r) = some (x, r)
  | [], r, _ => by simp [lnS]
  | c :: t, r, h => by
    have h1 := h c (by simp)
    have ih := lnS_clean (x := t) r (fun b hb => h b (by simp [hb]))
    show lnS (c :: (t ++ [13, 10] ++ r)) = _
    rw [lnS_more h1.1 h1.2, ih]
    rfl
/-! ### Fields of a message -/
theorem void_list {b : ByteArray} (h : b.size = 0) : b.data.toList = [] := by
  apply List.eq_nil_of_length_eq_zero
  have : b.data.toList.length = b.size := by simp
  omega
/-! ### First lines -/
end Go.Proofs.YtemmgfnepdgpbaaGreatDoor
namespace Go.Proofs.YtemmgfnepdgpbaaGreatDoor
open Go.RowKit
set_option linter.unusedVariables false

def wrdS (l : List UInt8) : List ByteArray := (wrdL l).map txtL
/-- The words found so far: k bytes looked at, the next word begins at f. -/
def WrdAt (l : List UInt8) (k f : Nat) (ws : List ByteArray) : Prop :=
  (k ≤ l.length ∧ f ≤ k ∧ ws.length ≤ f ∧ (∀ c ∈ (l.drop f).take (k - f), c ≠ 32) ∧ wrdS l = ws ++ wrdS (l.drop f)) ∨ (k = l.length + 1 ∧ ws.length ≤ k ∧ wrdS l = ws)
theorem WrdAt.start (l : List UInt8) : WrdAt l 0 0 [] := .inl ⟨Nat.zero_le _, Nat.le_refl _, Nat.le_refl _, fun c hc => by simp at hc, by simp⟩
theorem WrdAt.space {l : List UInt8} {k f : Nat} {ws : List ByteArray} (h : WrdAt l k f ws) (hk : k < l.length) (h32 : l[k] = 32) : WrdAt l (k + 1) (k + 1) (ws ++ [txtL ((l.drop f).take (k - f))]) := by
  rcases h with ⟨h1, h2, h0, h3, h4⟩ | ⟨h1, _⟩
  · refine .inl ⟨by omega, Nat.le_refl _, by rw [List.length_append, List.length_singleton]; omega, fun c hc => by simp at hc, ?_⟩
    have e : l.drop f = (l.drop f).take (k - f) ++ 32 :: l.drop (k + 1) := by
      have e1 : (l.drop f).drop (k - f) = l.drop k := by rw [List.drop_drop]; congr 1; omega
      rw [← h32, ← List.drop_eq_getElem_cons hk, ← e1, List.take_append_drop]
    rw [h4]
    conv => lhs; rw [show wrdS (l.drop f) = wrdS ((l.drop f).take (k - f) ++ 32 :: l.drop (k + 1)) from congrArg wrdS e]
    unfold wrdS
    rw [wrdL_app _ h3]
    simp
  · omega
theorem WrdAt.more {l : List UInt8} {k f : Nat} {ws : List ByteArray} (h : WrdAt l k f ws) (hk : k < l.length) (h32 : l[k] ≠ 32) : WrdAt l (k + 1) f ws := by
  rcases h with ⟨h1, h2, h0, h3, h4⟩ | ⟨h1, _⟩
  · refine .inl ⟨by omega, by omega, h0, fun c hc => ?_, h4⟩
    have hl : k - f < (l.drop f).length := by rw [List.length_drop]; omega
    rw [show k + 1 - f = k - f + 1 by omega, List.take_succ_eq_append_getElem hl] at hc
    rcases List.mem_append.1 hc with hc | hc
    · exact h3 c hc
    · simp at hc
      rw [hc]
      have : l[f + (k - f)]'(by omega) = l[k] := by congr 1; omega
      rw [this]
      exact h32
  · omega
theorem WrdAt.last {l : List UInt8} {f : Nat} {ws : List ByteArray} (h : WrdAt l l.length f ws) : WrdAt l (l.length + 1) (l.length + 1) (ws ++ [txtL ((l.drop f).take (l.length - f))]) := by
  rcases h with ⟨h1, h2, h0, h3, h4⟩ | ⟨h1, _⟩
  · refine .inr ⟨rfl, by rw [List.length_append, List.length_singleton]; omega, ?_⟩
    have e : (l.drop f).take (l.length - f) = l.drop f := List.take_of_length_le (by rw [List.length_drop]; omega)
    rw [e] at h3 ⊢
    rw [h4]
    unfold wrdS
    rw [wrdL_one h3]
    rfl
  · omega
theorem WrdAt.from {l : List UInt8} {k f : Nat} {ws : List ByteArray} (h : WrdAt l k f ws) (hk : k ≤ l.length) : f ≤ k := by
  rcases h with ⟨h1, h2, _⟩ | ⟨h1, _⟩
  · exact h2
  · omega
theorem WrdAt.few {l : List UInt8} {k f : Nat} {ws : List ByteArray} (h : WrdAt l k f ws) : ws.length ≤ l.length + 1 := by
  rcases h with ⟨h1, h2, h0, _⟩ | ⟨h1, h2, _⟩ <;> omega
theorem WrdAt.all {l : List UInt8} {f : Nat} {ws : List ByteArray} (h : WrdAt l (l.length + 1) f ws) : ws = wrdS l := by
  rcases h with ⟨h1, _⟩ | ⟨_, _, h2⟩
  · omega
  · exact h2.symm
theorem cut_of (s : ByteArray) (f k : Nat) : txtL ((s.data.toList.drop f).take (k - f)) = s.extract f k := by
  refine ba_ext ?_
  show (s.data.toList.drop f).take (k - f) = _
  rw [ByteArray.data_extract, Array.toList_extract, List.extract_eq_take_drop]

set_option maxHeartbeats 1000000 in
theorem specWords (s : ByteArray) (w : World) (hs : s.size ≤ 1048576) :
    Calls Tryz.prog 78 #[.string s] w fun e w' => ∃ u, e = .returned u ∧ OwnsS w' w.heap.size u (wrdS s.data.toList) ∧ Below w.heap.size w w' := by
  have hsl : s.data.toList.length = s.size := by simp
  have HSL : Hid (s.data.toList.length = s.size) := hsl
  go_enter Tryz.func78, Tryz.ntmps78
  go_wp2
  go_loopw [3, 4, 5] (fun a b i wr => ∃ (k f : Nat) (ws : List ByteArray), i = .int .i64 k ∧ b = .int .i64 f ∧ k ≤ s.size + 1 ∧ f ≤ s.size + 1 ∧ Hid (WrdAt s.data.toList k f ws) ∧ OwnsS wr w.heap.size a ws ∧ Hid (Below w.heap.size w wr)) (fun _ _ i _ => s.size + 1 - (intOf i).toNat)
  case atStart => exact ⟨0, 0, [], rfl, rfl, Nat.zero_le _, Nat.zero_le _, WrdAt.start _, OwnsS.born w, (Below.refl _ w).alloc (Nat.le_refl _) _⟩
  case round =>
    obtain ⟨k, f, ws, rfl, rfl, hk, hf, hw, ho, hb⟩ := hrel
    have hfew := hw.out.few
    rw [hsl] at hfew
    clear hsl
    by_cases hend : k ≤ s.size
    · have hfk := hw.out.from (by rw [HSL.out]; exact hend)
      by_cases hlt : k < s.size
      · have hne : ((k : Int) == (s.size : Int)) = false := by simp; omega
        by_cases h32 : (s[k].toNat : Int) = 32
        · have HN : Hid (WrdAt s.data.toList (k + 1) (k + 1) (ws ++ [s.extract f k])) := by
            have := hw.out.space (by rw [HSL.out]; exact hlt) (show s[k] = 32 from UInt8.toNat_inj.1 (by rw [show (32 : UInt8).toNat = 32 from rfl]; omega))
            rw [cut_of] at this
            exact this
          go_wp2_with (at_builtin; refine wpList_pushS _ rfl (.tmp 23) (.tmp 28) rfl w.heap.size _ ws (s.extract f k) rfl ho rfl (by omega) hb.out.size ?_; intro v2 w2 ho2 hg2; have B2 : Hid (Below w.heap.size w w2) := hb.out.grown hg2 hb.out.size (OwnsS.from ho); clear hg2)
          go_roundw
          case rel => exact ⟨k + 1, k + 1, _, by go_num, by go_num, by omega, by omega, HN, ho2, B2⟩
          case measure => simp [intOf]; omega
        · have HN : Hid (WrdAt s.data.toList (k + 1) f ws) := hw.out.more (by rw [HSL.out]; exact hlt) (show s[k] ≠ 32 from fun e => h32 (by rw [e]; rfl))
          have h32b : ((s[k].toNat : Int) == 32) = false := by simpa using h32
          go_wp2
          go_roundw
          case rel => exact ⟨k + 1, f, ws, by go_num, rfl, by omega, hf, HN, ho, hb⟩
          case measure => simp [intOf]; omega
      · obtain rfl : k = s.size := by omega
        have HN : Hid (WrdAt s.data.toList (s.size + 1) (s.size + 1) (ws ++ [s.extract f s.size])) := by
          have := hw.out
          rw [← HSL.out] at this
          have := this.last
          rw [HSL.out, cut_of] at this
          exact this
        go_wp2_with (at_builtin; refine wpList_pushS _ rfl (.tmp 23) (.tmp 28) rfl w.heap.size _ ws (s.extract f s.size) rfl ho rfl (by omega) hb.out.size ?_; intro v2 w2 ho2 hg2; have B2 : Hid (Below w.heap.size w w2) := hb.out.grown hg2 hb.out.size (OwnsS.from ho); clear hg2)
        go_roundw
        case rel => exact ⟨s.size + 1, s.size + 1, _, by go_num, by go_num, by omega, by omega, HN, ho2, B2⟩
        case measure => simp [intOf] <;> omega
    · obtain rfl : k = s.size + 1 := by omega
      have HW : Hid (ws = wrdS s.data.toList) := by
        have := hw.out
        rw [← HSL.out] at this
        exact this.all
      have hgt : ¬ (((s.size + 1 : Nat) : Int) ≤ (s.size : Int)) := by omega
      go_wp2
      go_ret
      refine ⟨_, rfl, ?_, hb.out⟩
      rw [← HW.out]
      exact ho
end Go.Proofs.YtemmgfnepdgpbaaGreatDoor
namespace Go.Proofs.YtemmgfnepdgpbaaGreatDoor
open Go.RowKit Go.Sort
set_option linter.unusedVariables false

theorem drewN_belowS (w : World) (n : Nat) : Below w.heap.size w (w.drewN n) := ⟨rfl, rfl, rfl, Nat.le_refl _, fun _ _ => rfl⟩
theorem cell_ltS {w : World} {b o : Nat} {v : Value} (h : w.cell? ⟨b, o, none⟩ = some v) : b < w.heap.size := by
  cases e : w.heap[b]? with
  | none => simp [World.cell?, e] at h
  | some x => exact (Array.getElem?_eq_some_iff.1 e).1
theorem past6S {w w1 w2 : World} (h1 : Below w.heap.size w w1) (h2 : Below w1.heap.size w1 w2) : Below w.heap.size w w2 := h1.trans (h2.mono h1.size)
theorem grown_selfS (w : World) (r : Option Nat) : w.grownBy w r := ⟨rfl, rfl, rfl, Nat.le_refl _, fun _ _ _ => rfl⟩
theorem grown_putS {a w : World} {g : Nat} (h : a.grownBy w (some g)) (j : Nat) (v : Value) : a.grownBy (w.setCell ⟨g, j, none⟩ v) (some g) :=
  ⟨h.os, h.tape, h.output, by simpa [World.setCell] using h.size, fun k hk hne => (Below.heap_setCell _ _ _ _ (fun e => hne (by rw [e]))).trans (h.block k hk hne)⟩
theorem grown_belowS {a w w' : World} {r : Option Nat} (h : a.grownBy w r) (hb : Below w.heap.size w w') : a.grownBy w' r :=
  ⟨hb.os.trans h.os, hb.tape.trans h.tape, hb.output.trans h.output, Nat.le_trans h.size hb.size, fun k hk hne => (hb.block k (Nat.lt_of_lt_of_le hk h.size)).trans (h.block k hk hne)⟩
theorem drop_textS (t : ByteArray) (k : Nat) : (t.extract k t.size).data.toList = t.data.toList.drop k := by
  rw [ByteArray.data_extract, Array.toList_extract, List.extract_eq_take_drop]
  exact List.take_of_length_le (by simp)
theorem take_textS (t : ByteArray) {p n : Nat} {q : List UInt8} (h : t.data.toList.drop p = q) : t.extract p (p + n) = txtL (q.take n) := by
  subst h
  rw [← cut_of]
  congr 2
  omega
/-- A reader in block b stands in the text t, ahead of place k. -/
structure Sdr (w : World) (b : Nat) (t : ByteArray) (k : Nat) : Prop where
  c0 : w.cell? ⟨b, 0, none⟩ = some (.string t)
  c1 : w.cell? ⟨b, 1, none⟩ = some (.int .i64 k)
  fz : ∀ j, w.frozen? ⟨b, j, none⟩ = false
  hi : b < w.heap.size
theorem Sdr.new (w : World) (t : ByteArray) : Sdr (w.alloc (.cells #[.string t, .int .i64 0] 89)) w.heap.size t 0 where
  c0 := World.cell?_alloc_mark _ _ _ _ _
  c1 := World.cell?_alloc_mark _ _ _ _ _
  fz := fun k => by rw [World.frozen?_alloc_mark]; simp
  hi := by simp
theorem Sdr.kept {w w' : World} {b k : Nat} {t : ByteArray} (h : Sdr w b t k) (hb : Below w.heap.size w w') : Sdr w' b t k := by
  have e : w'.heap[b]? = w.heap[b]? := hb.block b h.hi
  have q : ∀ k, w'.cell? ⟨b, k, none⟩ = w.cell? ⟨b, k, none⟩ := fun k => World.cell?_of_block (a := ⟨b, k, none⟩) e
  exact ⟨(q 0).trans h.c0, (q 1).trans h.c1, fun j => (World.frozen?_of_block (a := ⟨b, j, none⟩) e).trans (h.fz j), Nat.lt_of_lt_of_le h.hi hb.size⟩
theorem Sdr.put {w : World} {b k : Nat} {t : ByteArray} (h : Sdr w b t k) (m : Nat) : Sdr (w.setCell ⟨b, 1, none⟩ (.int .i64 m)) b t m where
  c0 := by rw [World.cell?_setCell_other _ _ _ _ (by simp)]; exact h.c0
  c1 := World.cell?_setCell_same _ _ _ h.c1
  fz := fun k => by rw [World.frozen?_setCell]; exact h.fz k
  hi := by rw [World.size_setCell]; exact h.hi

set_option maxHeartbeats 400000 in
theorem implRestS (b : Nat) (t : ByteArray) (k : Nat) (w : World) (h : Sdr w b t k) (hk : k ≤ t.size) (ht : t.size ≤ 1048576) :
    Calls Tryz.prog 98 #[.pointer (some ⟨b, 0, none⟩)] w fun e w' => e = .returned (.string (t.extract k t.size)) ∧ Below w.heap.size w w' := by
  have c0 := h.c0
  have c1 := h.c1
  clear h
  go_enter Tryz.func98, Tryz.ntmps98
  go_wp2
  go_quiet (fail)
  go_wp2
  go_ret
  exact ⟨rfl, drewN_belowS w _⟩

set_option maxHeartbeats 400000 in
theorem implSkipS (b : Nat) (t : ByteArray) (k n : Nat) (w : World) (h : Sdr w b t k) (hk : k ≤ 1048576) (hn : n ≤ 1048576) :
    Calls Tryz.prog 134 #[.pointer (some ⟨b, 0, none⟩), .int .i64 n] w fun e w' => e = .returned (.tuple #[]) ∧ Sdr w' b t (k + n) ∧ w.grownBy w' (some b) := by
  have c1 := h.c1
  have fz := h.fz 1
  have H1 : Hid (Sdr (w.setCell ⟨b, 1, none⟩ (.int .i64 ((k : Int) + (n : Int)))) b t (k + n)) := by
    have := h.put (k + n)
    rw [show (((k + n : Nat) : Int)) = (k : Int) + (n : Int) from by omega] at this
    exact this
  have H2 : Hid (w.grownBy (w.setCell ⟨b, 1, none⟩ (.int .i64 ((k : Int) + (n : Int)))) (some b)) := grown_putS (grown_selfS w (some b)) _ _
  clear h
  go_enter Tryz.func134, Tryz.ntmps134
  go_wp2
  go_returns
  exact ⟨rfl, H1.out, H2.out⟩

theorem rest_sizeS (t : ByteArray) {k : Nat} (hk : k ≤ t.size) : (t.extract k t.size).size = t.size - k := by rw [ByteArray.size_extract]; omega
theorem rest_lenS (t : ByteArray) (k : Nat) : (t.data.toList.drop k).length = t.size - k := by rw [List.length_drop]; simp
set_option maxHeartbeats 1000000 in
theorem implLine_noS (b : Nat) (t : ByteArray) (k : Nat) (m : Int) (w : World) (h : Sdr w b t k) (hk : k ≤ t.size) (ht : t.size ≤ 1048576) (hm : w.cell? ⟨3, 0, none⟩ = some (.int .i64 m)) (hl : lnC (t.data.toList.drop k) = none) :
    Calls Tryz.prog 102 #[.pointer (some ⟨b, 0, none⟩)] w fun e w' => e = .returned (.tuple #[.string ⟨#[]⟩, .bool false]) ∧ Below w.heap.size w w' := by
  have hr := implRestS b t k w h hk ht
  have hz := rest_sizeS t hk
  have hd := drop_textS t k
  have hcut := fun W hW => Tryz.strings_Cut (t.extract k t.size) ⟨#[13, 10]⟩ m W (by omega) hW
  rw [show (⟨#[13, 10]⟩ : ByteArray).data.toList = [13, 10] from rfl, cut_ln, hd, hl] at hcut
  simp only at hcut
  generalize (⟨(t.data.toList.drop k).toArray⟩ : ByteArray) = q1 at hcut
  generalize t.extract k t.size = s at hr hcut
  clear hl h hd
  go_enter Tryz.func102, Tryz.ntmps102
  go_wp2_with fail
  refine hr.mono ?_
  rintro e w1 ⟨rfl, hb1⟩
  have m1 := (hb1.cell (p := ⟨3, 0, none⟩) (cell_ltS hm)).trans hm
  go_wp2_with fail
  refine (hcut w1 m1).mono ?_
  rintro e w2 ⟨rfl, n, hw2⟩
  have hb2 : Below w.heap.size w w2 := by rw [hw2]; exact past6S hb1 (drewN_belowS w1 n)
  clear hw2 hb1 m1
  go_wp2
  go_ret2
  exact ⟨rfl, hb2⟩

set_option maxHeartbeats 1000000 in
theorem implLine_yesS (b : Nat) (t : ByteArray) (k : Nat) (m : Int) (x r : List UInt8) (w : World) (h : Sdr w b t k) (hk : k ≤ t.size) (ht : t.size ≤ 1048576) (hm : w.cell? ⟨3, 0, none⟩ = some (.int .i64 m)) (hl : lnC (t.data.toList.drop k) = some (x, r)) :
    Calls Tryz.prog 102 #[.pointer (some ⟨b, 0, none⟩)] w fun e w' => e = .returned (.tuple #[.string (txtL x), .bool true]) ∧ Sdr w' b t (k + (x.length + 2)) ∧ w.grownBy w' (some b) := by
  have hr := implRestS b t k w h hk ht
  have hz := rest_sizeS t hk
  have hd := drop_textS t k
  have hlen := congrArg List.length (lnC_length hl)
  rw [rest_lenS] at hlen
  simp only [List.length_append, List.length_cons, List.length_nil] at hlen
  have hcut := fun W hW => Tryz.strings_Cut (t.extract k t.size) ⟨#[13, 10]⟩ m W (by omega) hW
  rw [show (⟨#[13, 10]⟩ : ByteArray).data.toList = [13, 10] from rfl, cut_ln, hd, hl] at hcut
  simp only at hcut
  have hxs : (txtL x).size = x.length := by show x.toArray.size = x.length; simp
  have hcut' : Hid (∀ (W : World), W.cell? ⟨3, 0, none⟩ = some (.int .i64 m) → Calls Tryz.prog 97 #[.string (t.extract k t.size), .string ⟨#[13, 10]⟩] W fun e w' => e = .returned (.tuple #[.string (txtL x), .string ⟨r.toArray⟩, .bool true]) ∧ ∃ n, w' = W.drewN n) := hcut
  clear hcut
  have hsk : Hid (∀ W, Sdr W b t k → Calls Tryz.prog 134 #[.pointer (some ⟨b, 0, none⟩), .int .i64 ((x.length : Int) + 2)] W fun e w' => e = .returned (.tuple #[]) ∧ Sdr w' b t (k + (x.length + 2)) ∧ W.grownBy w' (some b)) := fun W hW => by
    have := implSkipS b t k (x.length + 2) W hW (by omega) (by omega)
    exact this
  have RD : Hid (Sdr w b t k) := h
  generalize txtL x = X at hcut' hxs ⊢
  generalize (⟨r.toArray⟩ : ByteArray) = R at hcut'
  generalize t.extract k t.size = s at hr hcut'
  have hxm : (X.size : Int) + 2 = (x.length : Int) + 2 := by omega
  have hX : X.size ≤ 1048576 := by omega
  have HX : Hid (X.size = x.length) := hxs
  clear hl h hd hz hxs hlen
  go_enter Tryz.func102, Tryz.ntmps102
  go_wp2_with fail
  refine hr.mono ?_
  rintro e w1 ⟨rfl, hb1⟩
  have m1 := (hb1.cell (p := ⟨3, 0, none⟩) (cell_ltS hm)).trans hm
  have R1 : Hid (Sdr w1 b t k) := RD.out.kept hb1
  go_wp2_with fail
  refine (hcut'.out w1 m1).mono ?_
  rintro e w2 ⟨rfl, n, hw2⟩
  have hb2 : Below w.heap.size w w2 := by rw [hw2]; exact past6S hb1 (drewN_belowS w1 n)
  have R2 : Hid (Sdr w2 b t k) := by rw [hw2]; exact R1.out.kept (drewN_belowS w1 n)
  clear hw2 hb1 m1 R1 RD hcut'
  go_wp2_with (go_at_call 134; first | (rw [hxm]; refine (hsk.out _ R2.out).mono ?_) | refine (hsk.out _ R2.out).mono ?_; rintro e w3 ⟨rfl, hr3, hg3⟩)
  go_ret2
  exact ⟨rfl, hr3, (grown_belowS (grown_selfS w (some b)) hb2).trans hg3⟩

set_option maxHeartbeats 1000000 in
theorem implTake_noS (b : Nat) (t : ByteArray) (k n : Nat) (w : World) (h : Sdr w b t k) (hk : k ≤ t.size) (ht : t.size ≤ 1048576) (hn : ¬ n ≤ t.size - k) :
    Calls Tryz.prog 105 #[.pointer (some ⟨b, 0, none⟩), .int .i64 n] w fun e w' => e = .returned (.tuple #[.string ⟨#[]⟩, .bool false]) ∧ Below w.heap.size w w' := by
  have hr := implRestS b t k w h hk ht
  have hz := rest_sizeS t hk
  generalize t.extract k t.size = s at hr hz
  have hs1 : s.size ≤ 1048576 := by omega
  have d1 : decide ((s.size : Int) < (n : Int)) = true := by simp; omega
  clear h
  go_enter Tryz.func105, Tryz.ntmps105
  go_wp2_with fail
  refine hr.mono ?_
  rintro e w1 ⟨rfl, hb1⟩
  go_wp2
  go_ret2
  exact ⟨rfl, hb1⟩

set_option maxHeartbeats 1000000 in
theorem implTake_yesS (b : Nat) (t : ByteArray) (k n : Nat) (w : World) (h : Sdr w b t k) (hk : k ≤ t.size) (ht : t.size ≤ 1048576) (hn : n ≤ t.size - k) :
    Calls Tryz.prog 105 #[.pointer (some ⟨b, 0, none⟩), .int .i64 n] w fun e w' => e = .returned (.tuple #[.string (txtL ((t.data.toList.drop k).take n)), .bool true]) ∧ Sdr w' b t (k + n) ∧ w.grownBy w' (some b) := by
  have hr := implRestS b t k w h hk ht
  have hz := rest_sizeS t hk
  have hd := drop_textS t k
  have HT : Hid ((t.extract k t.size).extract 0 n = txtL ((t.data.toList.drop k).take n)) := by
    have := take_textS (t.extract k t.size) (p := 0) (n := n) (q := t.data.toList.drop k) (by rw [hd]; rfl)
    rw [Nat.zero_add] at this
    exact this
  have RD : Hid (Sdr w b t k) := h
  have hsk : Hid (∀ W, Sdr W b t k → Calls Tryz.prog 134 #[.pointer (some ⟨b, 0, none⟩), .int .i64 (n : Int)] W fun e w' => e = .returned (.tuple #[]) ∧ Sdr w' b t (k + n) ∧ W.grownBy w' (some b)) := fun W hW => implSkipS b t k n W hW (by omega) (by omega)
  generalize txtL ((t.data.toList.drop k).take n) = X at HT ⊢
  generalize t.extract k t.size = s at hr hz HT
  have hs1 : s.size ≤ 1048576 := by omega
  have hns : n ≤ s.size := by omega
  have d1 : decide ((s.size : Int) < (n : Int)) = false := by simp; omega
  clear h hd hz
  go_enter Tryz.func105, Tryz.ntmps105
  go_wp2_with fail
  refine hr.mono ?_
  rintro e w1 ⟨rfl, hb1⟩
  have R1 : Hid (Sdr w1 b t k) := RD.out.kept hb1
  clear RD
  go_wp2_with (go_at_call 134; refine (hsk.out _ R1.out).mono ?_; rintro e w3 ⟨rfl, hr3, hg3⟩)
  go_ret2
  refine ⟨?_, hr3, (grown_belowS (grown_selfS w (some b)) hb1).trans hg3⟩
  rw [HT.out]
  rfl
end Go.Proofs.YtemmgfnepdgpbaaGreatDoor

/-
  The program's reader by its contracts: a new one, the words of the first line.
  The program's reader by its contracts: the first line of a request, of a response.
  A row of bytes that a call owns, also one made out of a text; one byte appended to it.
-/
import Derived.Test.YteibacmohplblaaGreatDoorG23
import Derived.Test.YteibacmohplblaaGreatDoorG22
import Derived.Test.YteibacmohplblaaGreatDoorShelfH
import Derived.WalkLawsBesides
import Derived.Test.YteibacmohplblaaGreatDoorG14
import Derived.Test.YteibacmohplblaaGreatDoorG02
import Derived.Laws.Append
import Derived.Laws.IdiomStrings
namespace Go.Proofs.YteibacmohplblaaGreatDoor
open Go.RowKit Go.Sort
set_option linter.unusedVariables false

/-! ### Words, as the library splits them -/
theorem index_byte6 (c : UInt8) : ∀ s : List UInt8, Lib.index s [c] = Lib.indexByte s c
  | [] => rfl
  | b :: l => by
    rw [Lib.index, Lib.indexByte, index_byte6 c l]
    by_cases h : b = c
    · subst h; simp [List.isPrefixOf]
    · have h2 : ([c] : List UInt8).isPrefixOf (b :: l) = false := by simp [List.isPrefixOf, Ne.symm h]
      have h3 : (b == c) = false := by simp [h]
      rw [h2, h3]
theorem wrdL_ne (l : List UInt8) : ∃ x xs, wrdL l = x :: xs := by
  cases l with
  | nil => exact ⟨[], [], rfl⟩
  | cons c r =>
    unfold wrdL
    split
    · exact ⟨_, _, rfl⟩
    · split
      · exact ⟨_, _, rfl⟩
      · exact ⟨_, _, rfl⟩
theorem wrd_miss : ∀ l : List UInt8, Lib.indexByte l 32 = -1 → wrdL l = [l]
  | [], _ => rfl
  | c :: l, h => by
    rw [Lib.indexByte] at h
    by_cases hc : c = 32
    · rw [if_pos (by simp [hc])] at h; cases h
    · rw [if_neg (by simp [hc])] at h
      have hge := Lib.indexByte_ge l 32
      have hl : Lib.indexByte l 32 = -1 := by
        by_cases e : Lib.indexByte l 32 = -1
        · exact e
        · rw [if_neg (by simp [e])] at h; omega
      rw [wrdL, if_neg hc, wrd_miss l hl]
theorem wrd_hit : ∀ (l : List UInt8) (i : Nat), Lib.indexByte l 32 = (i : Int) → wrdL l = l.take i :: wrdL (l.drop (i + 1))
  | [], i, h => by rw [Lib.indexByte] at h; omega
  | c :: l, i, h => by
    rw [Lib.indexByte] at h
    by_cases hc : c = 32
    · rw [if_pos (by simp [hc])] at h
      obtain rfl : i = 0 := by omega
      rw [wrdL, if_pos hc]
      rfl
    · rw [if_neg (by simp [hc])] at h
      by_cases e : Lib.indexByte l 32 = -1
      · rw [if_pos (by simp [e])] at h; omega
      · rw [if_neg (by simp [e])] at h
        obtain ⟨j, rfl⟩ : ∃ j, i = j + 1 := ⟨i - 1, by have := Lib.indexByte_ge l 32; omega⟩
        rw [wrdL, if_neg hc, wrd_hit l j (by omega)]
        rfl
theorem splitK_len : ∀ (k : Nat) (l : List UInt8), (Lib.splitK [32] 0 k l).length = min (k + 1) (wrdL l).length
  | 0, l => by
    obtain ⟨x, xs, e⟩ := wrdL_ne l
    rw [e, Lib.splitK, List.length_cons, List.length_cons, List.length_nil]
    omega
  | k + 1, l => by
    rw [Lib.splitK, index_byte6]
    have hge := Lib.indexByte_ge l 32
    by_cases e : Lib.indexByte l 32 = -1
    · rw [if_pos (by simp [e]), wrd_miss l e, List.length_cons, List.length_nil]
      omega
    · rw [if_neg (by simp [e])]
      obtain ⟨i, hi⟩ := Int.eq_ofNat_of_zero_le (show 0 ≤ Lib.indexByte l 32 by omega)
      rw [wrd_hit l i hi, List.length_cons, List.length_cons, splitK_len k, hi]
      show min (k + 1) (wrdL (l.drop (i + 1))).length + 1 = min (k + 1 + 1) ((wrdL (l.drop (i + 1))).length + 1)
      omega
theorem splitK_all : ∀ (k : Nat) (l : List UInt8), (wrdL l).length ≤ k + 1 → Lib.splitK [32] 0 k l = wrdL l
  | 0, l, h => by
    have hge := Lib.indexByte_ge l 32
    by_cases e : Lib.indexByte l 32 = -1
    · rw [wrd_miss l e]; rfl
    · obtain ⟨i, hi⟩ := Int.eq_ofNat_of_zero_le (show 0 ≤ Lib.indexByte l 32 by omega)
      rw [wrd_hit l i hi, List.length_cons] at h
      obtain ⟨x, xs, e2⟩ := wrdL_ne (l.drop (i + 1))
      rw [e2, List.length_cons] at h
      omega
  | k + 1, l, h => by
    rw [Lib.splitK, index_byte6]
    have hge := Lib.indexByte_ge l 32
    by_cases e : Lib.indexByte l 32 = -1
    · rw [if_pos (by simp [e]), wrd_miss l e]
    · rw [if_neg (by simp [e])]
      obtain ⟨i, hi⟩ := Int.eq_ofNat_of_zero_le (show 0 ≤ Lib.indexByte l 32 by omega)
      rw [wrd_hit l i hi] at h ⊢
      rw [List.length_cons] at h
      rw [hi]
      show l.take i :: Lib.splitK [32] 0 k (l.drop (i + 1)) = _
      rw [splitK_all k _ (by omega)]
theorem wrdL_few (l : List UInt8) : (wrdL l).length ≤ l.length + 1 := by
  induction l with
  | nil => simp [wrdL]
  | cons c r ih =>
    unfold wrdL
    split
    · rw [List.length_cons, List.length_cons]; omega
    · split
      · rename_i x xs e
        rw [e, List.length_cons] at ih
        rw [List.length_cons, List.length_cons]
        omega
      · rw [List.length_cons, List.length_nil, List.length_cons]; omega
/-- What strings.SplitN hands back at a blank and four. -/
def spl4 (s : ByteArray) : List ByteArray := Lib.splitB ⟨#[32]⟩ 0 (min 4 (s.size + 1) - 1) s
theorem spl4_data (s : ByteArray) : (spl4 s).map (·.data.toList) = Lib.splitK [32] 0 (min 4 (s.size + 1) - 1) s.data.toList := Lib.splitB_data _ _ _ _
theorem spl4_len (s : ByteArray) : (spl4 s).length = min 4 (wrdL s.data.toList).length := by
  have h := congrArg List.length (spl4_data s)
  rw [List.length_map, splitK_len] at h
  have h2 := wrdL_few s.data.toList
  rw [show s.data.toList.length = s.size by simp] at h2
  rw [h]
  obtain ⟨x, xs, e⟩ := wrdL_ne s.data.toList
  rw [e, List.length_cons] at h2 ⊢
  omega
theorem spl4_three {s : ByteArray} {m g v : List UInt8} (h : wrdL s.data.toList = [m, g, v]) : spl4 s = [txtL m, txtL g, txtL v] := by
  have hd := spl4_data s
  have h2 := wrdL_few s.data.toList
  rw [show s.data.toList.length = s.size by simp, h] at h2
  simp only [List.length_cons, List.length_nil] at h2
  rw [splitK_all _ _ (by rw [h]; simp only [List.length_cons, List.length_nil]; omega), h] at hd
  match hs : spl4 s, hd with
  | [a, b, c], hd =>
    simp only [List.map_cons, List.map_nil, List.cons.injEq, and_true] at hd
    obtain ⟨h1, h2, h3⟩ := hd
    rw [show a = txtL m from ba_ext h1, show b = txtL g from ba_ext h2, show c = txtL v from ba_ext h3]

theorem genSplit4 (s : ByteArray) (w : World) (hs : s.size ≤ 1048576) :
    Calls Tryz.prog 144 #[.string s, .string ⟨#[32]⟩, .int .i64 0, .int .i64 4] w fun e w' =>
      e = .returned (.slice (some ⟨w.heap.size, 0, none⟩) (spl4 s).length (min 4 (s.size + 1))) ∧ w' = w.alloc (.cells (Lib.cellsOf (spl4 s) (min 4 (s.size + 1))) 9) := by
  exact Any.strings_genSplit_core Tryz.lays221 (by kernel_rfl) s ⟨#[32]⟩ 0 4 (min 4 (s.size + 1)) w (by omega) (Nat.le_refl 1) (Nat.zero_le _)
    (fun x C hx => (Tryz.strings_Index_one x 32 _).mono fun e w' ⟨he, hw⟩ => ⟨by rw [he]; show _ = Ending.returned (.int .i64 (Lib.index x.data.toList [32])); rw [index_byte6], hw⟩)
    ((Tryz.strings_Count_one s 32 w).mono fun e w' ⟨he, hw⟩ => ⟨by rw [he]; show _ = Ending.returned (Value.int .i64 ((Lib.count s.data.toList [32] : Nat) : Int)); rw [Lib.count_one]; rfl, hw⟩)
    (by decide) (by decide) (by rw [if_neg (by decide)]; omega)
set_option maxHeartbeats 1000000 in
theorem split4 (s : ByteArray) (w : World) (hs : s.size ≤ 1048576) :
    Calls Tryz.prog 120 #[.string s, .string ⟨#[32]⟩, .int .i64 4] w fun e w' =>
      e = .returned (.slice (some ⟨w.heap.size, 0, none⟩) (spl4 s).length (min 4 (s.size + 1))) ∧ w' = w.alloc (.cells (Lib.cellsOf (spl4 s) (min 4 (s.size + 1))) 9) := by
  have k := genSplit4 s w hs
  generalize (spl4 s).length = n at k
  generalize Lib.cellsOf (spl4 s) (min 4 (s.size + 1)) = C at k
  generalize min 4 (s.size + 1) = N at k
  go_enter Tryz.func120, Tryz.ntmps120
  go_wp2_with (go_at_call 144; refine k.mono ?_; rintro e w' ⟨rfl, hw⟩; rw [hw])
  go_ret
  exact ⟨rfl, rfl⟩

/-- What a reader that gives up panics with. -/
def panL (k : Int) : List PanicEntry := [{ v := .iface 97 (.int .i64 k), recovered := false }]
theorem implNewR (t : ByteArray) (w : World) :
    Calls Tryz.prog 47 #[.string t] w fun e w' => e = .returned (.pointer (some ⟨w.heap.size, 0, none⟩)) ∧ w' = w.alloc (.cells #[.string t, .int .i64 0] 63) := by
  go_enter Tryz.func47, Tryz.ntmps47
  go_wp2
  go_ret
  exact ⟨rfl, rfl⟩
set_option maxHeartbeats 1000000 in
theorem implWords_no (b : Nat) (t : ByteArray) (m : Int) (w : World) (h : Rdr w b t 0) (ht : t.size ≤ 1048576) (hm : w.cell? ⟨1, 0, none⟩ = some (.int .i64 m)) (hl : ∀ x r, lnC t.data.toList = some (x, r) → ¬ (wrdL x).length = 3) :
    Calls Tryz.prog 93 #[.pointer (some ⟨b, 0, none⟩)] w fun e w' => e = .panicked (panL 1) ∧ w.grownBy w' (some b) := by
  unfold panL
  cases hc : lnC t.data.toList with
  | none =>
    have hq := implLine_no b t 0 m w h (Nat.zero_le _) ht hm (by rw [List.drop_zero]; exact hc)
    have hs := fun W => split4 ⟨#[]⟩ W (by decide)
    generalize (spl4 ⟨#[]⟩).length = n at hs
    generalize Lib.cellsOf (spl4 ⟨#[]⟩) (min 4 ((⟨#[]⟩ : ByteArray).size + 1)) = C at hs
    generalize min 4 ((⟨#[]⟩ : ByteArray).size + 1) = N at hs
    clear hl hc h
    go_enter Tryz.func93, Tryz.ntmps93
    go_wp2_with fail
    refine hq.mono ?_
    rintro e w1 ⟨rfl, hb1⟩
    have hg1 : w.grownBy (w1.alloc (.cells C 9)) (some b) := grown_below (grown_below (grown_self w (some b)) hb1) ((Below.refl _ w1).alloc (Nat.le_refl _) _)
    go_wp2_with (go_at_call 120; refine (hs _).mono ?_; rintro e w2 ⟨rfl, hw⟩; rw [hw])
    exact ⟨rfl, rfl, hg1⟩
  | some p =>
    obtain ⟨x, r⟩ := p
    have hq := implLine_yes b t 0 m x r w h (Nat.zero_le _) ht hm (by rw [List.drop_zero]; exact hc)
    have hlen := congrArg List.length (lnC_length hc)
    rw [show t.data.toList.length = t.size by simp] at hlen
    simp only [List.length_append, List.length_cons, List.length_nil] at hlen
    have hxs : (txtL x).size = x.length := by show x.toArray.size = x.length; simp
    have hs := fun W => split4 (txtL x) W (by omega)
    have hn : ¬ (spl4 (txtL x)).length = 3 := by
      rw [spl4_len]
      show ¬ min 4 (wrdL x).length = 3
      have := hl x r hc
      omega
    generalize (spl4 (txtL x)).length = n at hs hn
    generalize Lib.cellsOf (spl4 (txtL x)) (min 4 ((txtL x).size + 1)) = C at hs
    generalize min 4 ((txtL x).size + 1) = N at hs
    generalize txtL x = X at hq hs
    have d1 : ((n : Int) == 3) = false := by simp; omega
    have d2 : ((n : Int) != 3) = true := by simp; omega
    clear hl hc h hxs hlen
    go_enter Tryz.func93, Tryz.ntmps93
    go_wp2_with fail
    refine hq.mono ?_
    rintro e w1 ⟨rfl, hr1, hg⟩
    have hg1 : w.grownBy (w1.alloc (.cells C 9)) (some b) := grown_below hg ((Below.refl _ w1).alloc (Nat.le_refl _) _)
    clear hr1
    go_wp2_with (go_at_call 120; refine (hs _).mono ?_; rintro e w2 ⟨rfl, hw⟩; rw [hw])
    exact ⟨rfl, rfl, hg1⟩
set_option maxHeartbeats 1000000 in
theorem implWords_yes (b : Nat) (t : ByteArray) (m : Int) (x r a1 a2 a3 : List UInt8) (w : World) (h : Rdr w b t 0) (ht : t.size ≤ 1048576) (hm : w.cell? ⟨1, 0, none⟩ = some (.int .i64 m)) (hc : lnC t.data.toList = some (x, r)) (hw3 : wrdL x = [a1, a2, a3]) :
    Calls Tryz.prog 93 #[.pointer (some ⟨b, 0, none⟩)] w fun e w' => e = .returned (.tuple #[.string (txtL a1), .string (txtL a2), .string (txtL a3)]) ∧ Rdr w' b t (x.length + 2) ∧ w.grownBy w' (some b) := by
  have hq := implLine_yes b t 0 m x r w h (Nat.zero_le _) ht hm (by rw [List.drop_zero]; exact hc)
  rw [Nat.zero_add] at hq
  have hlen := congrArg List.length (lnC_length hc)
  rw [show t.data.toList.length = t.size by simp] at hlen
  simp only [List.length_append, List.length_cons, List.length_nil] at hlen
  have hxs : (txtL x).size = x.length := by show x.toArray.size = x.length; simp
  have hs := fun W => split4 (txtL x) W (by omega)
  have h3 : spl4 (txtL x) = [txtL a1, txtL a2, txtL a3] := spl4_three hw3
  have hN : 3 ≤ min 4 ((txtL x).size + 1) ∧ min 4 ((txtL x).size + 1) ≤ 4 := by
    have := wrdL_few x
    rw [hw3] at this
    simp only [List.length_cons, List.length_nil] at this
    rw [hxs]
    omega
  rw [h3] at hs
  generalize min 4 ((txtL x).size + 1) = N at hs hN
  have k0 : ∀ W : World, (W.alloc (.cells (Lib.cellsOf [txtL a1, txtL a2, txtL a3] N) 9)).cell? ⟨W.heap.size, 0, none⟩ = some (.string (txtL a1)) := fun W => World.cell?_alloc_mark _ _ _ _ _
  have k1 : ∀ W : World, (W.alloc (.cells (Lib.cellsOf [txtL a1, txtL a2, txtL a3] N) 9)).cell? ⟨W.heap.size, 1, none⟩ = some (.string (txtL a2)) := fun W => World.cell?_alloc_mark _ _ _ _ _
  have k2 : ∀ W : World, (W.alloc (.cells (Lib.cellsOf [txtL a1, txtL a2, txtL a3] N) 9)).cell? ⟨W.heap.size, 2, none⟩ = some (.string (txtL a3)) := fun W => World.cell?_alloc_mark _ _ _ _ _
  generalize Lib.cellsOf [txtL a1, txtL a2, txtL a3] N = C at hs k0 k1 k2
  generalize txtL x = X at hq hs
  generalize txtL a1 = A1 at k0 ⊢
  generalize txtL a2 = A2 at k1 ⊢
  generalize txtL a3 = A3 at k2 ⊢
  simp only [List.length_cons, List.length_nil] at hs
  clear hc h hxs hlen hw3 h3
  go_enter Tryz.func93, Tryz.ntmps93
  go_wp2_with fail
  refine hq.mono ?_
  rintro e w1 ⟨rfl, hr1, hg⟩
  have c0 := k0 w1
  have c1 := k1 w1
  have c2 := k2 w1
  have al := (Below.refl _ w1).alloc (Nat.le_refl _) (.cells C 9)
  have HG : Hid (w.grownBy (w1.alloc (.cells C 9)) (some b)) := grown_below hg al
  have HR : Hid (Rdr (w1.alloc (.cells C 9)) b t (x.length + 2)) := hr1.kept al
  clear hr1 hg al k0 k1 k2
  have hs1 : Calls Tryz.prog 120 #[.string X, .string ⟨#[32]⟩, .int .i64 4] w1 fun e w' => ∃ g, e = .returned (.slice (some ⟨g, 0, none⟩) 3 N) ∧ w'.cell? ⟨g, 0, none⟩ = some (.string A1) ∧ w'.cell? ⟨g, 1, none⟩ = some (.string A2) ∧ w'.cell? ⟨g, 2, none⟩ = some (.string A3) ∧ w.grownBy w' (some b) ∧ Rdr w' b t (x.length + 2) := (hs w1).mono fun e w' ⟨h1, h2⟩ => by
    subst h2
    exact ⟨_, h1, c0, c1, c2, HG.out, HR.out⟩
  clear hs c0 c1 c2 HG HR
  go_wp2_with (go_at_call 120; refine hs1.mono ?_; rintro e w2 ⟨g, rfl, d0, d1, d2, hg2, hr2⟩; have HG : Hid (w.grownBy w2 (some b)) := hg2; have HR : Hid (Rdr w2 b t (x.length + 2)) := hr2; clear hg2 hr2)
  go_quiet (fail)
  go_wp2
  go_ret3
  exact ⟨rfl, HR.out.kept (drewN_below w2 _), grown_below HG.out (drewN_below w2 _)⟩
end Go.Proofs.YteibacmohplblaaGreatDoor
namespace Go.Proofs.YteibacmohplblaaGreatDoor
open Go.RowKit Go.Sort
set_option linter.unusedVariables false

/-! ### A line whose words are right has no other line end in it -/
theorem wrdL_holds : ∀ {x : List UInt8} {c : UInt8}, c ∈ x → c ≠ 32 → ∃ y ∈ wrdL x, c ∈ y
  | [], _, h, _ => by cases h
  | d :: x, c, h, hn => by
    rcases List.mem_cons.1 h with rfl | h
    · obtain ⟨y, ys, e⟩ := wrdL_ne x
      rw [wrdL, if_neg hn, e]
      exact ⟨c :: y, by simp, by simp⟩
    · obtain ⟨y, hy, hc⟩ := wrdL_holds h hn
      rw [wrdL]
      split
      · exact ⟨y, by simp [hy], hc⟩
      · split
        · rename_i z zs e
          rw [e] at hy
          rcases List.mem_cons.1 hy with rfl | hy
          · exact ⟨d :: y, by simp, by simp [hc]⟩
          · exact ⟨y, by simp [hy], hc⟩
        · rename_i e
          rw [e] at hy
          cases hy
theorem lnS_good {t x r m g v : List UInt8} (hc : lnC t = some (x, r)) (hw : wrdL x = [m, g, v]) (h1 : ∀ c ∈ m, c ≠ 13 ∧ c ≠ 10) (h2 : ∀ c ∈ g, c ≠ 13 ∧ c ≠ 10) (h3 : ∀ c ∈ v, c ≠ 13 ∧ c ≠ 10) : lnS t = some (x, r) := by
  cases h : lnS t with
  | none =>
    obtain ⟨c, hcx, hc2⟩ := lnS_none h hc
    have h32 : c ≠ 32 := by rcases hc2 with rfl | rfl <;> decide
    obtain ⟨y, hy, hcy⟩ := wrdL_holds hcx h32
    rw [hw] at hy
    simp only [List.mem_cons, List.not_mem_nil, or_false] at hy
    have : c ≠ 13 ∧ c ≠ 10 := by
      rcases hy with rfl | rfl | rfl
      · exact h1 c hcy
      · exact h2 c hcy
      · exact h3 c hcy
    rcases hc2 with rfl | rfl
    · exact absurd rfl this.1
    · exact absurd rfl this.2
  | some p =>
    obtain ⟨x', r'⟩ := p
    rw [(lnS_some h).1] at hc
    rw [hc]
theorem bytes_ok {p : Int → Bool} {l : List UInt8} (h : allB p l = true) (h13 : p 13 = false) (h10 : p 10 = false) : ∀ c ∈ l, c ≠ 13 ∧ c ≠ 10 := by
  intro c hc
  unfold allB at h
  have := List.all_eq_true.1 h c hc
  refine ⟨fun e => ?_, fun e => ?_⟩
  · subst e; rw [show (((13 : UInt8).toNat : Nat) : Int) = 13 from rfl, h13] at this; cases this
  · subst e; rw [show (((10 : UInt8).toNat : Nat) : Int) = 10 from rfl, h10] at this; cases this
theorem met_clean {m : List UInt8} (h : metB (txtL m) = true) : ∀ c ∈ m, c ≠ 13 ∧ c ≠ 10 := by
  unfold metB at h
  rw [Bool.and_eq_true] at h
  exact bytes_ok (p := capN) h.1 (by decide) (by decide)
theorem tar_clean {m : List UInt8} (h : tarB (txtL m) = true) : ∀ c ∈ m, c ≠ 13 ∧ c ≠ 10 := by
  unfold tarB at h
  rw [Bool.and_eq_true] at h
  exact bytes_ok (p := tarN) h.2 (by decide) (by decide)
theorem tok_clean {m : List UInt8} (h : tokB (txtL m) = true) : ∀ c ∈ m, c ≠ 13 ∧ c ≠ 10 := by
  unfold tokB at h
  rw [Bool.and_eq_true] at h
  exact bytes_ok (p := tokN) h.2 (by decide) (by decide)
theorem num_clean {m : List UInt8} (h : numOk 10 15 (txtL m) = true) : ∀ c ∈ m, c ≠ 13 ∧ c ≠ 10 := by
  unfold numOk at h
  rw [Bool.and_eq_true] at h
  exact bytes_ok (p := digN 10) h.2 (by decide) (by decide)
theorem hv_clean {m : List UInt8} (h : txtL m = hvS) : ∀ c ∈ m, c ≠ 13 ∧ c ≠ 10 := by
  have e : m = [72, 84, 84, 80, 47, 49, 46, 49] := by have := congrArg (·.data.toList) h; exact this
  subst e
  decide
def goodQ (m g v : List UInt8) : Prop := metB (txtL m) = true ∧ tarB (txtL g) = true ∧ txtL v = hvS
def goodS (v g o : List UInt8) : Prop := txtL v = hvS ∧ staOk g = true ∧ tokB (txtL o) = true
theorem goodQ_line {t x r m g v : List UInt8} (hc : lnC t = some (x, r)) (hw : wrdL x = [m, g, v]) (h : goodQ m g v) : lnS t = some (x, r) := lnS_good hc hw (met_clean h.1) (tar_clean h.2.1) (hv_clean h.2.2)
theorem goodS_line {t x r v g o : List UInt8} (hc : lnC t = some (x, r)) (hw : wrdL x = [v, g, o]) (h : goodS v g o) : lnS t = some (x, r) := by
  have h2 := h.2.1
  unfold staOk at h2
  rw [Bool.and_eq_true, Bool.and_eq_true] at h2
  exact lnS_good hc hw (hv_clean h.1) (num_clean h2.2.1) (tok_clean h.2.2)
theorem badQ {t : List UInt8} (h : ∀ x r m g v, lnC t = some (x, r) → wrdL x = [m, g, v] → ¬ goodQ m g v) : rdRq t = (1, noQ, 0) := by
  cases hl : lnS t with
  | none => exact rq_none hl
  | some p =>
    obtain ⟨x, r⟩ := p
    by_cases h3 : (wrdL x).length = 3
    · obtain ⟨m, g, v, hw⟩ := three_of h3
      exact rq_line hl hw (h x r m g v (lnS_some hl).1 hw)
    · exact rq_words hl h3
theorem badS {t : List UInt8} (h : ∀ x r v g o, lnC t = some (x, r) → wrdL x = [v, g, o] → ¬ goodS v g o) : rdRs t = (1, noS, 0) := by
  cases hl : lnS t with
  | none => exact rs_none hl
  | some p =>
    obtain ⟨x, r⟩ := p
    by_cases h3 : (wrdL x).length = 3
    · obtain ⟨m, g, v, hw⟩ := three_of h3
      exact rs_line hl hw (h x r m g v (lnS_some hl).1 hw)
    · exact rs_words hl h3
theorem word_few {t x r a1 a2 a3 : List UInt8} (hc : lnC t = some (x, r)) (hw : wrdL x = [a1, a2, a3]) (ht : t.length ≤ 1048576) : x.length + 2 ≤ t.length ∧ (txtL a1).size ≤ 1048576 ∧ (txtL a2).size ≤ 1048576 ∧ (txtL a3).size ≤ 1048576 := by
  have hlen := congrArg List.length (lnC_length hc)
  simp only [List.length_append, List.length_cons, List.length_nil] at hlen
  have hs := word_size hw
  have z : ∀ a : List UInt8, (txtL a).size = a.length := fun a => by show a.toArray.size = a.length; simp
  have h1 := hs a1 (by simp)
  have h2 := hs a2 (by simp)
  have h3 := hs a3 (by simp)
  rw [z, z, z]
  omega

/-! ### The first line of a request -/
set_option maxHeartbeats 1000000 in
theorem implRqLine_no (b : Nat) (t : ByteArray) (m : Int) (w : World) (h : Rdr w b t 0) (ht : t.size ≤ 1048576) (hm : w.cell? ⟨1, 0, none⟩ = some (.int .i64 m)) (hbad : ∀ x r m g v, lnC t.data.toList = some (x, r) → wrdL x = [m, g, v] → ¬ goodQ m g v) :
    Calls Tryz.prog 48 #[.pointer (some ⟨b, 0, none⟩)] w fun e w' => e = .panicked (panL 1) ∧ w.grownBy w' (some b) := by
  by_cases hyes : ∃ x r a1 a2 a3, lnC t.data.toList = some (x, r) ∧ wrdL x = [a1, a2, a3]
  · obtain ⟨x, r, a1, a2, a3, hc, hw⟩ := hyes
    have hq := implWords_yes b t m x r a1 a2 a3 w h ht hm hc hw
    have hn := hbad x r a1 a2 a3 hc hw
    obtain ⟨_, z1, z2, z3⟩ := word_few hc hw (by simpa using ht)
    unfold goodQ at hn
    generalize txtL a1 = A1 at hq hn z1
    generalize txtL a2 = A2 at hq hn z2
    generalize txtL a3 = A3 at hq hn z3
    clear hbad hc hw h
    unfold panL
    go_enter Tryz.func48, Tryz.ntmps48
    go_wp2_with fail
    refine hq.mono ?_
    rintro e w1 ⟨rfl, hr1, hg1⟩
    clear hr1
    go_wp2_with fail
    refine (implMet A1 _ (le_max z1)).mono ?_
    rintro e w2 ⟨rfl, hb2⟩
    have hg2 := grown_below hg1 hb2
    clear hg1 hb2
    cases h1 : metB A1 with
    | false =>
      clear hn
      go_wp2
      exact ⟨rfl, rfl, hg2⟩
    | true =>
      go_wp2_with fail
      refine (implTar A2 _ (le_max z2)).mono ?_
      rintro e w3 ⟨rfl, hb3⟩
      have hg3 := grown_below hg2 hb3
      clear hg2 hb3
      cases h2 : tarB A2 with
      | false =>
        clear hn
        go_wp2
        exact ⟨rfl, rfl, hg3⟩
      | true =>
        have d := (diff_hv (fun e => hn ⟨h1, h2, e⟩)).1
        clear hn
        go_wp2
        exact ⟨rfl, rfl, hg3⟩
  · have hq := implWords_no b t m w h ht hm (fun x r hc h3 => by obtain ⟨a1, a2, a3, hw⟩ := three_of h3; exact hyes ⟨x, r, a1, a2, a3, hc, hw⟩)
    clear hbad hyes h
    unfold panL at hq ⊢
    go_enter Tryz.func48, Tryz.ntmps48
    go_wp2_with fail
    refine hq.mono ?_
    rintro e w1 ⟨rfl, hg1⟩
    exact ⟨rfl, rfl, hg1⟩
set_option maxHeartbeats 1000000 in
theorem implRqLine_yes (b : Nat) (t : ByteArray) (m : Int) (x r a1 a2 a3 : List UInt8) (w : World) (h : Rdr w b t 0) (ht : t.size ≤ 1048576) (hm : w.cell? ⟨1, 0, none⟩ = some (.int .i64 m)) (hc : lnC t.data.toList = some (x, r)) (hw : wrdL x = [a1, a2, a3]) (hg : goodQ a1 a2 a3) :
    Calls Tryz.prog 48 #[.pointer (some ⟨b, 0, none⟩)] w fun e w' => e = .returned (.tuple #[.string (txtL a1), .string (txtL a2)]) ∧ Rdr w' b t (x.length + 2) ∧ w.grownBy w' (some b) := by
  have hq := implWords_yes b t m x r a1 a2 a3 w h ht hm hc hw
  obtain ⟨_, z1, z2, z3⟩ := word_few hc hw (by simpa using ht)
  obtain ⟨g1, g2, g3⟩ := hg
  generalize txtL a1 = A1 at hq z1 g1 ⊢
  generalize txtL a2 = A2 at hq z2 g2 ⊢
  generalize txtL a3 = A3 at hq z3 g3
  have d := (same_hv g3).1
  clear hc hw h g3
  go_enter Tryz.func48, Tryz.ntmps48
  go_wp2_with fail
  refine hq.mono ?_
  rintro e w1 ⟨rfl, hr1, hg1⟩
  have R1 : Hid (Rdr w1 b t (x.length + 2)) := hr1
  clear hr1
  go_wp2_with fail
  refine (implMet A1 _ (le_max z1)).mono ?_
  rintro e w2 ⟨rfl, hb2⟩
  have R2 : Hid (Rdr w2 b t (x.length + 2)) := R1.out.kept hb2
  have hg2 := grown_below hg1 hb2
  clear hg1 hb2 R1
  rw [g1]
  go_wp2_with fail
  refine (implTar A2 _ (le_max z2)).mono ?_
  rintro e w3 ⟨rfl, hb3⟩
  have R3 : Hid (Rdr w3 b t (x.length + 2)) := R2.out.kept hb3
  have hg3 := grown_below hg2 hb3
  clear hg2 hb3 R2
  rw [g2]
  go_wp2_with fail
  refine (clone A1 _ z1).mono ?_
  rintro e w4 ⟨rfl, hb4⟩
  have R4 : Hid (Rdr w4 b t (x.length + 2)) := R3.out.kept hb4
  have hg4 := grown_below hg3 hb4
  clear hg3 hb4 R3
  go_wp2_with fail
  refine (clone A2 _ z2).mono ?_
  rintro e w5 ⟨rfl, hb5⟩
  have R5 : Hid (Rdr w5 b t (x.length + 2)) := R4.out.kept hb5
  have hg5 := grown_below hg4 hb5
  clear hg4 hb5 R4
  go_wp2
  go_ret2
  exact ⟨rfl, R5.out, hg5⟩
end Go.Proofs.YteibacmohplblaaGreatDoor
namespace Go.Proofs.YteibacmohplblaaGreatDoor
open Go.RowKit

/-- The value v owns the bytes l, in a block from B on, of which no cell is frozen. -/
def OwnsC (w : World) (B : Nat) (v : Value) (l : List UInt8) : Prop := (v = .slice none 0 0 ∧ l = []) ∨ ∃ g cap cur fz, v = .slice (some ⟨g, 0, none⟩) l.length cap ∧ B ≤ g ∧ w.heap[g]? = some (.cells cur 5 fz) ∧ (fz = (0, 0) ∨ cur.size ≤ fz.1) ∧ l.length ≤ cap ∧ cap ≤ maxLen ∧ cur.size = cap ∧ cur.toList.take l.length = bytesV l
theorem OwnsC.of {w : World} {B : Nat} {v : Value} {l : List UInt8} (h : OwnsB w B v l) : OwnsC w B v l := by
  rcases h.2 with ⟨hv, hn⟩ | ⟨g, cap, cur, hv, hb, hg, h1, h2, h3, h4⟩
  · exact .inl ⟨hv, List.eq_nil_of_length_eq_zero hn⟩
  · exact .inr ⟨g, cap, cur, (0, 0), hv, hb, hg, .inl rfl, h1, h2, by omega, by rw [Nat.mul_one] at h4; exact h4⟩
theorem OwnsC.nil (w : World) (B : Nat) : OwnsC w B (.slice none 0 0) [] := .inl ⟨rfl, rfl⟩
theorem OwnsC.lt {w : World} {B : Nat} {v : Value} {l : List UInt8} (h : OwnsC w B v l) : ∀ k, v.ownBlock = some k → B ≤ k ∧ k < w.heap.size := by
  intro k hk
  rcases h with ⟨rfl, _⟩ | ⟨g, cap, cur, fz, rfl, hb, hg, _⟩
  · simp [Value.ownBlock] at hk
  · simp [Value.ownBlock] at hk
    subst hk
    exact ⟨hb, (Array.getElem?_eq_some_iff.1 hg).1⟩
/-- What is owned is owned behind a step that keeps its block. -/
theorem OwnsC.kept {w w' : World} {B : Nat} {v : Value} {l : List UInt8} (h : OwnsC w B v l) (hk : ∀ k, v.ownBlock = some k → w'.heap[k]? = w.heap[k]?) : OwnsC w' B v l := by
  rcases h with h0 | ⟨g, cap, cur, fz, rfl, hb, hg, rest⟩
  · exact .inl h0
  · exact .inr ⟨g, cap, cur, fz, rfl, hb, (hk g rfl).trans hg, rest⟩
theorem OwnsC.form {w : World} {B : Nat} {v : Value} {l : List UInt8} (h : OwnsC w B v l) : ∃ a cap, v = .slice a l.length cap ∧ l.length ≤ cap ∧ cap ≤ maxLen := by
  rcases h with ⟨rfl, rfl⟩ | ⟨g, cap, cur, fz, rfl, hb, hg, _, h1, h2, _⟩
  · exact ⟨none, 0, rfl, Nat.zero_le _, Nat.zero_le _⟩
  · exact ⟨_, cap, rfl, h1, h2⟩
theorem OwnsC.cells {w : World} {B g n cap : Nat} {l : List UInt8} (h : OwnsC w B (.slice (some ⟨g, 0, none⟩) n cap) l) : ∀ j u, (bytesV l)[j]? = some u → w.cell? ((⟨g, 0, none⟩ : Addr).add j) = some u := by
  intro j u hu
  rcases h with ⟨h0, _⟩ | ⟨g', cap', cur, fz, hv, hb, hg, _, h1, h2, h3, h4⟩
  · cases h0
  · obtain ⟨rfl, rfl, rfl⟩ : g = g' ∧ n = l.length ∧ cap = cap' := by simpa using hv
    have hadd : (⟨g, 0, none⟩ : Addr).add j = ⟨g, j, none⟩ := by unfold Addr.add; split <;> simp_all
    rw [hadd, cell_of_row w g j cur 5 fz hg]
    rw [← h4, List.getElem?_take] at hu
    split at hu
    · simpa using hu
    · cases hu
/-- The owned bytes as a text. -/
theorem OwnsC.text {w : World} {B : Nat} {v : Value} {l : List UInt8} (h : OwnsC w B v l) : (convert 22 9 v).run Tryz.prog w = .ok (.string ⟨l.toArray⟩) w := by
  have h' := h
  rcases h with ⟨rfl, rfl⟩ | ⟨g, cap, cur, fz, rfl, hb, hg, rest⟩
  · rw [run_convert_bytes_string w 22 9 5 none 0 0 Tryz.underlying22 Tryz.underlying5 Tryz.underlying9]
    rfl
  · refine run_convert_bytes_back (P := Tryz.prog) w 22 9 5 ⟨g, 0, none⟩ cap l Tryz.underlying22 Tryz.underlying5 Tryz.underlying9 (fun j hj => ?_)
    exact OwnsC.cells h' j _ (by simp [bytesV, hj])
/-- A row made out of a text. -/
theorem row_of (w : World) (s : ByteArray) (hz : s.size ≤ 1048576) : ∃ (cap : Nat) (C : Array Value), (convert 9 22 (.string s)).run Tryz.prog w = .ok (.slice (some ⟨w.heap.size, 0, none⟩) s.size cap) (w.drew.alloc (.cells C 5 (C.size, C.size + 1))) ∧
    OwnsC (w.drew.alloc (.cells C 5 (C.size, C.size + 1))) w.heap.size (.slice (some ⟨w.heap.size, 0, none⟩) s.size cap) s.data.toList := by
  have hl : s.data.toList.length = s.size := by simp
  have hge := grownCap_ge w s.size 0 5
  have hsz : (bytesRow s (grownCap w s.size 0 5)).size = grownCap w s.size 0 5 := by
    have : (bytesRow s (grownCap w s.size 0 5)).size = s.data.size + (grownCap w s.size 0 5 - s.size) := by simp [bytesRow]
    have e : s.data.size = s.size := rfl
    omega
  refine ⟨_, _, run_bytes_of_string w 9 22 5 s Tryz.underlying9 Tryz.underlying22 Tryz.underlying5, .inr ⟨w.heap.size, _, _, _, by rw [hl], Nat.le_refl _, heap_alloc_new w.drew _, .inr (Nat.le_refl _), by rw [hl]; exact hge, grownCap_le_maxLen w _ _ _ (by unfold maxLen; omega), hsz, ?_⟩⟩
  refine List.ext_getElem? fun j => ?_
  by_cases hj : j < s.data.size
  · rw [List.getElem?_take]
    have hj' : j < s.data.toList.length := by simpa using hj
    rw [if_pos hj']
    have := bytesRow_at s (grownCap w s.size 0 5) j hj
    have e : s.data[j]? = some s.data[j] := Array.getElem?_eq_getElem hj
    rw [Array.getElem?_toList, this]
    unfold bytesV
    rw [List.getElem?_map, Array.getElem?_toList, e]
    rfl
  · have hj' : s.data.toList.length ≤ j := by simpa using hj
    rw [List.getElem?_eq_none (by rw [List.length_take]; omega), List.getElem?_eq_none (by rw [bytesV_length]; exact hj')]
/-- One byte appended. -/
theorem append_one (w : World) (ty : TypeId) (B : Nat) (v : Value) (l : List UInt8) (c : UInt8) (hown : OwnsC w B v l) (H : Nat) (hH : w.cell? ⟨H, 0, none⟩ = some (.int .u8 (c.toNat : Int))) (hlen : l.length ≤ 70000000000000) (hB : B ≤ w.heap.size) :
    ∃ v' w', (Builtin.append_ #[22, 22] ty #[v, .slice (some ⟨H, 0, none⟩) 1 1]).run Tryz.prog w = .ok v' w' ∧ OwnsC w' B v' (l ++ [c]) ∧ w.grownBy w' v.ownBlock ∧ (v'.ownBlock = v.ownBlock ∨ v'.ownBlock = some w.heap.size) := by
  obtain ⟨i0, hi, hz0, hz1, hz2⟩ := info_parts Tryz.info5
  have hnews : ∀ j u, ([.int .u8 (c.toNat : Int)] : List Value)[j]? = some u → w.cell? ((⟨H, 0, none⟩ : Addr).add j) = some u := by
    intro j u hu
    have : j = 0 := by
      have := (List.getElem?_eq_some_iff.1 hu).1
      simpa using this
    subst this
    simp at hu
    subst hu
    exact hH
  have grown : ∀ (old : Nat) (row : Option Nat), old < l.length + 1 → OwnsC (w.drew.alloc (.cells ((bytesV l).toArray ++ [.int .u8 (c.toNat : Int)].toArray ++ Builtin.zeroCells (Value.cells (.int .u8 0)) (grownCap w (l.length + 1) old 5 - (l.length + 1))) 5)) B (.slice (some ⟨w.heap.size, 0, none⟩) (l.length + 1) (grownCap w (l.length + 1) old 5)) (l ++ [c]) ∧
      w.grownBy (w.drew.alloc (.cells ((bytesV l).toArray ++ [.int .u8 (c.toNat : Int)].toArray ++ Builtin.zeroCells (Value.cells (.int .u8 0)) (grownCap w (l.length + 1) old 5 - (l.length + 1))) 5)) row := by
    intro old row ho
    have hge := grownCap_ge w (l.length + 1) old 5
    have hcm : grownCap w (l.length + 1) old 5 ≤ maxLen := grownCap_le_maxLen w (l.length + 1) old 5 (by unfold maxLen; omega)
    refine ⟨.inr ⟨w.heap.size, _, _, (0, 0), by simp, hB, heap_alloc_new w.drew _, .inl rfl, by simpa using hge, hcm, ?_, ?_⟩, ⟨rfl, rfl, rfl, by simp, fun k hk _ => Below.heap_alloc w.drew _ k hk⟩⟩
    · have e1 : (Value.cells (.int .u8 0)).size = 1 := rfl
      simp only [Array.size_append, List.size_toArray, size_zeroCells, e1, bytesV_length, List.length_singleton]
      omega
    · rw [bytesV_snoc]
      simp only [Array.toList_append, List.append_assoc]
      rw [← List.append_assoc]
      refine List.take_left' ?_
      simp [bytesV_length]
  rcases hown with ⟨rfl, rfl⟩ | ⟨g, cap, cur, fz, rfl, hb, hg, hfz, h1, h2, h3, h4⟩
  · have hr := run_append_nil (P := Tryz.prog) w 22 ty 5 i0 (.int .u8 0) Tryz.underlying22 hi hz0 ⟨H, 0, none⟩ 1 1 [.int .u8 (c.toNat : Int)] (by rw [hz1]; rfl) hnews (by omega) (by omega) (by rw [hz2]; omega)
    obtain ⟨g1, g2⟩ := grown 0 none (by simp)
    exact ⟨_, _, hr, by simpa [bytesV] using g1, by rw [show Value.ownBlock (.slice none 0 0) = none from rfl]; simpa [bytesV] using g2, .inr rfl⟩
  · by_cases hroom : l.length + 1 ≤ cap
    · have hn : l.length < cur.size := by omega
      have hcell : w.cell? ⟨g, l.length, none⟩ = some cur[l.length] := by simp [World.cell?, hg, hn]
      have hfro : w.frozen? ⟨g, l.length, none⟩ = false := by
        obtain ⟨lo, hi⟩ := fz
        simp only [World.frozen?, hg, Bool.and_eq_false_iff, decide_eq_false_iff_not]
        rcases hfz with h | h
        · right
          have : hi = 0 := (Prod.mk.inj h).2
          omega
        · left
          simp only at h
          omega
      have hst : (storeCells ⟨g, l.length, none⟩ [.int .u8 (c.toNat : Int)] 0).run Tryz.prog w = .ok () (w.setCell ⟨g, l.length, none⟩ (.int .u8 (c.toNat : Int))) := by
        have hadd : (⟨g, l.length, none⟩ : Addr).add 0 = ⟨g, l.length, none⟩ := rfl
        have hs1 : (store (⟨g, l.length, none⟩ : Addr) (.int .u8 (c.toNat : Int))).run Tryz.prog w = .ok () (w.setCell ⟨g, l.length, none⟩ (.int .u8 (c.toNat : Int))) := by
          rw [run_store Tryz.prog w _ _ _ rfl, hcell]
          simp [hfro]
        simp only [storeCells, Sem.run_bind, hadd, hs1, Result.andThen_ok]
        rfl
      have hf := run_firstCells_some (P := Tryz.prog) w i0.size 1 ⟨H, 0, none⟩ 1 1 [.int .u8 (c.toNat : Int)] (by rw [hz1]; rfl) hnews
      have hr : (Builtin.append_ #[22, 22] ty #[.slice (some ⟨g, 0, none⟩) l.length cap, .slice (some ⟨H, 0, none⟩) 1 1]).run Tryz.prog w = .ok (.slice (some ⟨g, 0, none⟩) (l.length + 1) cap) (w.setCell ⟨g, l.length, none⟩ (.int .u8 (c.toNat : Int))) := by
        rw [hz1] at hf
        simp [Builtin.append_, run_underlying Tryz.underlying22, sizeOf, typeInfo, hi, Builtin.lenOf, hroom, hz1, hf, Addr.add_lit, hst]
      have hset : (w.setCell ⟨g, l.length, none⟩ (.int .u8 (c.toNat : Int))) = w.setRow g (cur.setIfInBounds l.length (.int .u8 (c.toNat : Int))) := setCell_eq_setRow w g l.length cur 5 fz _ hg
      refine ⟨_, _, hr, .inr ⟨g, cap, cur.setIfInBounds l.length (.int .u8 (c.toNat : Int)), fz, by simp, hb, by rw [hset]; exact setRow_heap w g cur _ 5 _ hg, by simpa using hfz, by simpa using hroom, h2, by simpa using h3, ?_⟩, ⟨rfl, rfl, rfl, by simp, fun k _ hk => Below.heap_setCell w ⟨g, l.length, none⟩ _ k (fun e => hk (by simp [Value.ownBlock, e]))⟩, .inl rfl⟩
      rw [bytesV_snoc, ← h4, Array.toList_setIfInBounds, List.length_append, List.length_singleton, List.take_set, List.take_succ_eq_append_getElem (by simpa using hn)]
      rw [List.set_append_right _ _ (by rw [List.length_take]; exact Nat.min_le_left _ _)]
      simp [Nat.min_eq_left (Nat.le_of_lt hn)]
    · have hold : OwnsC w B (.slice (some ⟨g, 0, none⟩) l.length cap) l := .inr ⟨g, cap, cur, fz, rfl, hb, hg, hfz, h1, h2, h3, h4⟩
      have hr := run_append_grow (P := Tryz.prog) w 22 ty 5 i0 (.int .u8 0) Tryz.underlying22 hi hz0 ⟨g, 0, none⟩ l.length cap (bytesV l) (by rw [hz1, bytesV_length]; omega) hold.cells ⟨H, 0, none⟩ 1 1 [.int .u8 (c.toNat : Int)] (by rw [hz1]; rfl) hnews (by omega) (by omega) (by rw [hz2]; exact growslice_fits (by omega) (by omega))
      obtain ⟨g1, g2⟩ := grown cap (some g) (by omega)
      exact ⟨_, _, hr, g1, g2, .inr rfl⟩
/-- One byte appended, as a step of a walk. -/
theorem wpList_pushC {ops : Array Oper} {rest : List Oper} {o : Oper} {a : Act} {Q : Exit → Act → World → Prop} (w : World) (hgd : o.guard = none) (s x : Operand)
    (ho : o.op = .call { callee := .builtin .append, args := #[s, x], argTypes := #[22, 22] }) (B : Nat) (v : Value) (l : List UInt8) (n : Int) (c : UInt8) (hc : n = (c.toNat : Int)) (hs : a.eval s = v) (hown : OwnsC w B v l)
    (hx : a.eval x = .slice (some ⟨w.heap.size, 0, none⟩) 1 1) (hlen : l.length ≤ 70000000000000) (hB : B ≤ w.heap.size)
    (h : ∀ v' w', OwnsC w' B v' (l ++ [c]) → w.grownBy w' v.ownBlock → (v'.ownBlock = v.ownBlock ∨ v'.ownBlock = some (w.heap.size + 1)) → wpList Tryz.prog ops Q rest (a.put o.dst v') w') :
    wpList Tryz.prog ops Q (o :: rest) a (w.alloc (.cells #[.int .u8 n] 5)) := by
  subst hc
  have hk : ∀ k, v.ownBlock = some k → (w.alloc (.cells #[.int .u8 (c.toNat : Int)] 5)).heap[k]? = w.heap[k]? := fun k hk => Below.heap_alloc _ _ _ (hown.lt k hk).2
  obtain ⟨v', w', hr, h1, h2, h3⟩ := append_one (w.alloc (.cells #[.int .u8 (c.toNat : Int)] 5)) o.type B v l c (hown.kept hk) w.heap.size (by rw [World.cell?_alloc_mark]; rfl) hlen (by simp; omega)
  refine wpList_plain hgd fun K hK => ?_
  unfold Oper.wp execOp
  simp only [ho, resolve, invoke, builtin, Sem.run_bind, Sem.run_pure, Result.andThen_ok, List.map_toArray, List.map_cons, List.map_nil, hs, hx, hr]
  refine hK _ _ (h v' w' h1 ⟨h2.os, h2.tape, h2.output, ?_, ?_⟩ ?_)
  · have := h2.size
    simp at this
    omega
  · intro k hk' hne
    rw [h2.block k (by simp; omega) hne]
    exact Below.heap_alloc _ _ _ hk'
  · rcases h3 with h3 | h3
    · exact .inl h3
    · exact .inr (by rw [h3]; simp)
end Go.Proofs.YteibacmohplblaaGreatDoor

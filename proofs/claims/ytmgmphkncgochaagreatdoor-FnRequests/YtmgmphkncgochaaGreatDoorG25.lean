/-
  DERIVED: THE SHELF's CONTRACTS AT THIS DUMP, IN PLAIN WORDS (tools/lay-plain.mjs out of 'YtmgmphkncgochaaGreatDoorShelfH.lean', which tools/lay-shelf.mjs wrote): THE SAME DECLARATIONS UNDER THE SAME NAMES: 'import', 'namespace', 'open', 'def', 'theorem' AND NOTHING ELSE: no command of the shelf's: FOR A HAND-IN. Each laying: the table of numbers ('.._ren') and one theorem, a field a fact of the dump's own or the kernel's comparison; each contract: ONE APPLICATION.
  The program's reader by its contracts: a new one, the words of the first line.
  The program's reader by its contracts: the first line of a request, of a response.
-/
import Derived.Shelf.Strings.Split
import Derived.Test.YtmgmphkncgochaaGreatDoorProg
import Derived.Test.YtmgmphkncgochaaGreatDoorG24
import Derived.Test.YtmgmphkncgochaaGreatDoorG22
import Derived.WalkLawsBesides
import Derived.Test.YtmgmphkncgochaaGreatDoorG15
namespace Go.Proofs
open Go.Shelf
def Tryz.lays143_ren : Go.Shelf.Ren := ⟨fun | 143 => 162 | 219 => 163 | 217 => 176 | 225 => 159 | 224 => 158 | 267 => 180 | 266 => 192 | 314 => 194 | n => n, fun | 9 => 9 | 3 => 3 | 4 => 4 | 5 => 5 | 46 => 133 | 146 => 185 | 51 => 162 | n => n, fun | 1 => 1 | n => n⟩
theorem Tryz.lays143 : Go.Proofs.Lays.n143 Tryz.prog Tryz.lays143_ren := {
  mixed := by kernel_rfl
  f143 := Tryz.func162.trans (congrArg some (by kernel_rfl))
  f217 := Tryz.func176.trans (congrArg some (by kernel_rfl))
  f219 := Tryz.func163.trans (congrArg some (by kernel_rfl))
  f224 := Tryz.func158.trans (congrArg some (by kernel_rfl))
  f225 := Tryz.func159.trans (congrArg some (by kernel_rfl))
  f266 := Tryz.func192.trans (congrArg some (by kernel_rfl))
  f267 := Tryz.func180.trans (congrArg some (by kernel_rfl))
  f314 := Tryz.func194.trans (congrArg some (by kernel_rfl))
  t3 := Tryz.underlying3
  a3 := Tryz.isAgg3
  z3 := Tryz.sizeOf3
  v3 := Tryz.zeroValue3
  t4 := Tryz.underlying4
  a4 := Tryz.isAgg4
  z4 := Tryz.sizeOf4
  v4 := Tryz.zeroValue4
  t5 := Tryz.underlying5
  a5 := Tryz.isAgg5
  z5 := Tryz.sizeOf5
  v5 := Tryz.zeroValue5
  t9 := Tryz.underlying9
  a9 := Tryz.isAgg9
  z9 := Tryz.sizeOf9
  v9 := Tryz.zeroValue9
  t46 := Tryz.underlying133
  a46 := Tryz.isAgg133
  z46 := Tryz.sizeOf133
  v46 := Tryz.zeroValue133
  t51 := Tryz.underlying162
  a51 := Tryz.isAgg162
  z51 := Tryz.sizeOf162
  v51 := Tryz.zeroValue162
  t146 := Tryz.underlying185
  a146 := Tryz.isAgg185
  z146 := Tryz.sizeOf185
  v146 := Tryz.zeroValue185
  g1 := by kernel_rfl }
def Tryz.lays138_ren : Go.Shelf.Ren := ⟨fun | 138 => 161 | 195 => 177 | 218 => 179 | 143 => 162 | 219 => 163 | 217 => 176 | 225 => 159 | 224 => 158 | 267 => 180 | 266 => 192 | 314 => 194 | n => n, fun | 9 => 9 | 3 => 3 | 4 => 4 | 5 => 5 | 0 => 0 | 46 => 133 | 146 => 185 | 51 => 162 | n => n, fun | 1 => 1 | n => n⟩
theorem Tryz.lays138 : Go.Proofs.Lays.n138 Tryz.prog Tryz.lays138_ren := {
  mixed := by kernel_rfl
  f138 := Tryz.func161.trans (congrArg some (by kernel_rfl))
  f143 := Tryz.func162.trans (congrArg some (by kernel_rfl))
  f195 := Tryz.func177.trans (congrArg some (by kernel_rfl))
  f217 := Tryz.func176.trans (congrArg some (by kernel_rfl))
  f218 := Tryz.func179.trans (congrArg some (by kernel_rfl))
  f219 := Tryz.func163.trans (congrArg some (by kernel_rfl))
  f224 := Tryz.func158.trans (congrArg some (by kernel_rfl))
  f225 := Tryz.func159.trans (congrArg some (by kernel_rfl))
  f266 := Tryz.func192.trans (congrArg some (by kernel_rfl))
  f267 := Tryz.func180.trans (congrArg some (by kernel_rfl))
  f314 := Tryz.func194.trans (congrArg some (by kernel_rfl))
  t0 := Tryz.underlying0
  a0 := Tryz.isAgg0
  z0 := Tryz.sizeOf0
  v0 := Tryz.zeroValue0
  t3 := Tryz.underlying3
  a3 := Tryz.isAgg3
  z3 := Tryz.sizeOf3
  v3 := Tryz.zeroValue3
  t4 := Tryz.underlying4
  a4 := Tryz.isAgg4
  z4 := Tryz.sizeOf4
  v4 := Tryz.zeroValue4
  t5 := Tryz.underlying5
  a5 := Tryz.isAgg5
  z5 := Tryz.sizeOf5
  v5 := Tryz.zeroValue5
  t9 := Tryz.underlying9
  a9 := Tryz.isAgg9
  z9 := Tryz.sizeOf9
  v9 := Tryz.zeroValue9
  t46 := Tryz.underlying133
  a46 := Tryz.isAgg133
  z46 := Tryz.sizeOf133
  v46 := Tryz.zeroValue133
  t51 := Tryz.underlying162
  a51 := Tryz.isAgg162
  z51 := Tryz.sizeOf162
  v51 := Tryz.zeroValue162
  t146 := Tryz.underlying185
  a146 := Tryz.isAgg185
  z146 := Tryz.sizeOf185
  v146 := Tryz.zeroValue185
  g1 := by kernel_rfl }
def Tryz.lays221_ren : Go.Shelf.Ren := ⟨fun | 221 => 143 | 268 => 160 | 138 => 161 | 143 => 162 | 195 => 177 | 197 => 178 | 218 => 179 | 219 => 163 | 260 => 193 | 217 => 176 | 225 => 159 | 224 => 158 | 267 => 180 | 266 => 192 | 314 => 194 | n => n, fun | 9 => 9 | 3 => 3 | 31 => 74 | 4 => 4 | 0 => 0 | 105 => 176 | 21 => 21 | 5 => 5 | 46 => 133 | 119 => 188 | 139 => 191 | 138 => 190 | 146 => 185 | 51 => 162 | n => n, fun | 1 => 1 | 3 => 4 | 4 => 5 | n => n⟩
theorem Tryz.lays221 : Go.Proofs.Lays.n221 Tryz.prog Tryz.lays221_ren := {
  mixed := by kernel_rfl
  f138 := Tryz.func161.trans (congrArg some (by kernel_rfl))
  f143 := Tryz.func162.trans (congrArg some (by kernel_rfl))
  f195 := Tryz.func177.trans (congrArg some (by kernel_rfl))
  f197 := Tryz.func178.trans (congrArg some (by kernel_rfl))
  f217 := Tryz.func176.trans (congrArg some (by kernel_rfl))
  f218 := Tryz.func179.trans (congrArg some (by kernel_rfl))
  f219 := Tryz.func163.trans (congrArg some (by kernel_rfl))
  f221 := Tryz.func143.trans (congrArg some (by kernel_rfl))
  f224 := Tryz.func158.trans (congrArg some (by kernel_rfl))
  f225 := Tryz.func159.trans (congrArg some (by kernel_rfl))
  f260 := Tryz.func193.trans (congrArg some (by kernel_rfl))
  f266 := Tryz.func192.trans (congrArg some (by kernel_rfl))
  f267 := Tryz.func180.trans (congrArg some (by kernel_rfl))
  f268 := Tryz.func160.trans (congrArg some (by kernel_rfl))
  f314 := Tryz.func194.trans (congrArg some (by kernel_rfl))
  t0 := Tryz.underlying0
  a0 := Tryz.isAgg0
  z0 := Tryz.sizeOf0
  v0 := Tryz.zeroValue0
  t3 := Tryz.underlying3
  a3 := Tryz.isAgg3
  z3 := Tryz.sizeOf3
  v3 := Tryz.zeroValue3
  t4 := Tryz.underlying4
  a4 := Tryz.isAgg4
  z4 := Tryz.sizeOf4
  v4 := Tryz.zeroValue4
  t5 := Tryz.underlying5
  a5 := Tryz.isAgg5
  z5 := Tryz.sizeOf5
  v5 := Tryz.zeroValue5
  t9 := Tryz.underlying9
  a9 := Tryz.isAgg9
  z9 := Tryz.sizeOf9
  v9 := Tryz.zeroValue9
  t21 := Tryz.underlying21
  a21 := Tryz.isAgg21
  z21 := Tryz.sizeOf21
  v21 := Tryz.zeroValue21
  t31 := Tryz.underlying74
  a31 := Tryz.isAgg74
  z31 := Tryz.sizeOf74
  v31 := Tryz.zeroValue74
  t46 := Tryz.underlying133
  a46 := Tryz.isAgg133
  z46 := Tryz.sizeOf133
  v46 := Tryz.zeroValue133
  t51 := Tryz.underlying162
  a51 := Tryz.isAgg162
  z51 := Tryz.sizeOf162
  v51 := Tryz.zeroValue162
  t105 := Tryz.underlying176
  a105 := Tryz.isAgg176
  z105 := Tryz.sizeOf176
  v105 := Tryz.zeroValue176
  t119 := Tryz.underlying188
  a119 := Tryz.isAgg188
  z119 := Tryz.sizeOf188
  t138 := Tryz.underlying190
  a138 := Tryz.isAgg190
  z138 := Tryz.sizeOf190
  v138 := Tryz.zeroValue190
  t139 := Tryz.underlying191
  a139 := Tryz.isAgg191
  z139 := Tryz.sizeOf191
  v139 := Tryz.zeroValue191
  t146 := Tryz.underlying185
  a146 := Tryz.isAgg185
  z146 := Tryz.sizeOf185
  v146 := Tryz.zeroValue185
  g1 := by kernel_rfl
  g3 := by kernel_rfl
  g4 := by kernel_rfl }
theorem Tryz.strings_Index_one (s : ByteArray) (c : UInt8) (w : World) :
    Calls Tryz.prog 162 #[.string s, .string ⟨#[c]⟩] w fun e w' => e = .returned (.int .i64 (Lib.indexByte s.data.toList c)) ∧ w' = w := Any.strings_Index_one Tryz.lays143 s c w
theorem Tryz.strings_Count_one (s : ByteArray) (c : UInt8) (w : World) :
    Calls Tryz.prog 161 #[.string s, .string ⟨#[c]⟩] w fun e w' => e = .returned (.int .i64 (Lib.countByte s.data.toList c)) ∧ w' = w := Any.strings_Count_one Tryz.lays138 s c w
end Go.Proofs
namespace Go.Proofs.YtmgmphkncgochaaGreatDoor
open Go.RowKit Go.Sort
set_option linter.unusedVariables false

/-! ### Words, as the library splits them -/
theorem index_byte6 (c : UInt8) : ∀ s : List UInt8, Lib.index s [c] = Lib.indexByte s c
  | [] => rfl
  | b :: l => by
    rw [Lib.index, Lib.indexByte, index_byte6 c l]
    by_cases h : b = c
    · subst h; simp [List.isPrefixOf]
    · have h2 : ([c] : List UInt8).isPrefixOf (b :: l) = false := by simp [List.isPrefixOf, Ne.symm h]
      have h3 : (b == c) = false := by simp [h]
      rw [h2, h3]
theorem wrdL_ne (l : List UInt8) : ∃ x xs, wrdL l = x :: xs := by
  cases l with
  | nil => exact ⟨[], [], rfl⟩
  | cons c r =>
    unfold wrdL
    split
    · exact ⟨_, _, rfl⟩
    · split
      · exact ⟨_, _, rfl⟩
      · exact ⟨_, _, rfl⟩
theorem wrd_miss : ∀ l : List UInt8, Lib.indexByte l 32 = -1 → wrdL l = [l]
  | [], _ => rfl
  | c :: l, h => by
    rw [Lib.indexByte] at h
    by_cases hc : c = 32
    · rw [if_pos (by simp [hc])] at h; cases h
    · rw [if_neg (by simp [hc])] at h
      have hge := Lib.indexByte_ge l 32
      have hl : Lib.indexByte l 32 = -1 := by
        by_cases e : Lib.indexByte l 32 = -1
        · exact e
        · rw [if_neg (by simp [e])] at h; omega
      rw [wrdL, if_neg hc, wrd_miss l hl]
theorem wrd_hit : ∀ (l : List UInt8) (i : Nat), Lib.indexByte l 32 = (i : Int) → wrdL l = l.take i :: wrdL (l.drop (i + 1))
  | [], i, h => by rw [Lib.indexByte] at h; omega
  | c :: l, i, h => by
    rw [Lib.indexByte] at h
    by_cases hc : c = 32
    · rw [if_pos (by simp [hc])] at h
      obtain rfl : i = 0 := by omega
      rw [wrdL, if_pos hc]
      rfl
    · rw [if_neg (by simp [hc])] at h
      by_cases e : Lib.indexByte l 32 = -1
      · rw [if_pos (by simp [e])] at h; omega
      · rw [if_neg (by simp [e])] at h
        obtain ⟨j, rfl⟩ : ∃ j, i = j + 1 := ⟨i - 1, by have := Lib.indexByte_ge l 32; omega⟩
        rw [wrdL, if_neg hc, wrd_hit l j (by omega)]
        rfl
theorem splitK_len : ∀ (k : Nat) (l : List UInt8), (Lib.splitK [32] 0 k l).length = min (k + 1) (wrdL l).length
  | 0, l => by
    obtain ⟨x, xs, e⟩ := wrdL_ne l
    rw [e, Lib.splitK, List.length_cons, List.length_cons, List.length_nil]
    omega
  | k + 1, l => by
    rw [Lib.splitK, index_byte6]
    have hge := Lib.indexByte_ge l 32
    by_cases e : Lib.indexByte l 32 = -1
    · rw [if_pos (by simp [e]), wrd_miss l e, List.length_cons, List.length_nil]
      omega
    · rw [if_neg (by simp [e])]
      obtain ⟨i, hi⟩ := Int.eq_ofNat_of_zero_le (show 0 ≤ Lib.indexByte l 32 by omega)
      rw [wrd_hit l i hi, List.length_cons, List.length_cons, splitK_len k, hi]
      show min (k + 1) (wrdL (l.drop (i + 1))).length + 1 = min (k + 1 + 1) ((wrdL (l.drop (i + 1))).length + 1)
      omega
theorem splitK_all : ∀ (k : Nat) (l : List UInt8), (wrdL l).length ≤ k + 1 → Lib.splitK [32] 0 k l = wrdL l
  | 0, l, h => by
    have hge := Lib.indexByte_ge l 32
    by_cases e : Lib.indexByte l 32 = -1
    · rw [wrd_miss l e]; rfl
    · obtain ⟨i, hi⟩ := Int.eq_ofNat_of_zero_le (show 0 ≤ Lib.indexByte l 32 by omega)
      rw [wrd_hit l i hi, List.length_cons] at h
      obtain ⟨x, xs, e2⟩ := wrdL_ne (l.drop (i + 1))
      rw [e2, List.length_cons] at h
      omega
  | k + 1, l, h => by
    rw [Lib.splitK, index_byte6]
    have hge := Lib.indexByte_ge l 32
    by_cases e : Lib.indexByte l 32 = -1
    · rw [if_pos (by simp [e]), wrd_miss l e]
    · rw [if_neg (by simp [e])]
      obtain ⟨i, hi⟩ := Int.eq_ofNat_of_zero_le (show 0 ≤ Lib.indexByte l 32 by omega)
      rw [wrd_hit l i hi] at h ⊢
      rw [List.length_cons] at h
      rw [hi]
      show l.take i :: Lib.splitK [32] 0 k (l.drop (i + 1)) = _
      rw [splitK_all k _ (by omega)]
theorem wrdL_few (l : List UInt8) : (wrdL l).length ≤ l.length + 1 := by
  induction l with
  | nil => simp [wrdL]
  | cons c r ih =>
    unfold wrdL
    split
    · rw [List.length_cons, List.length_cons]; omega
    · split
      · rename_i x xs e
        rw [e, List.length_cons] at ih
        rw [List.length_cons, List.length_cons]
        omega
      · rw [List.length_cons, List.length_nil, List.length_cons]; omega
/-- What strings.SplitN hands back at a blank and four. -/
def spl4 (s : ByteArray) : List ByteArray := Lib.splitB ⟨#[32]⟩ 0 (min 4 (s.size + 1) - 1) s
theorem spl4_data (s : ByteArray) : (spl4 s).map (·.data.toList) = Lib.splitK [32] 0 (min 4 (s.size + 1) - 1) s.data.toList := Lib.splitB_data _ _ _ _
theorem spl4_len (s : ByteArray) : (spl4 s).length = min 4 (wrdL s.data.toList).length := by
  have h := congrArg List.length (spl4_data s)
  rw [List.length_map, splitK_len] at h
  have h2 := wrdL_few s.data.toList
  rw [show s.data.toList.length = s.size by simp] at h2
  rw [h]
  obtain ⟨x, xs, e⟩ := wrdL_ne s.data.toList
  rw [e, List.length_cons] at h2 ⊢
  omega
theorem spl4_three {s : ByteArray} {m g v : List UInt8} (h : wrdL s.data.toList = [m, g, v]) : spl4 s = [txtL m, txtL g, txtL v] := by
  have hd := spl4_data s
  have h2 := wrdL_few s.data.toList
  rw [show s.data.toList.length = s.size by simp, h] at h2
  simp only [List.length_cons, List.length_nil] at h2
  rw [splitK_all _ _ (by rw [h]; simp only [List.length_cons, List.length_nil]; omega), h] at hd
  match hs : spl4 s, hd with
  | [a, b, c], hd =>
    simp only [List.map_cons, List.map_nil, List.cons.injEq, and_true] at hd
    obtain ⟨h1, h2, h3⟩ := hd
    rw [show a = txtL m from ba_ext h1, show b = txtL g from ba_ext h2, show c = txtL v from ba_ext h3]

theorem genSplit4 (s : ByteArray) (w : World) (hs : s.size ≤ 1048576) :
    Calls Tryz.prog 143 #[.string s, .string ⟨#[32]⟩, .int .i64 0, .int .i64 4] w fun e w' =>
      e = .returned (.slice (some ⟨w.heap.size, 0, none⟩) (spl4 s).length (min 4 (s.size + 1))) ∧ w' = w.alloc (.cells (Lib.cellsOf (spl4 s) (min 4 (s.size + 1))) 9) := by
  exact Any.strings_genSplit_core Tryz.lays221 (by kernel_rfl) s ⟨#[32]⟩ 0 4 (min 4 (s.size + 1)) w (by omega) (Nat.le_refl 1) (Nat.zero_le _)
    (fun x C hx => (Tryz.strings_Index_one x 32 _).mono fun e w' ⟨he, hw⟩ => ⟨by rw [he]; show _ = Ending.returned (.int .i64 (Lib.index x.data.toList [32])); rw [index_byte6], hw⟩)
    ((Tryz.strings_Count_one s 32 w).mono fun e w' ⟨he, hw⟩ => ⟨by rw [he]; show _ = Ending.returned (Value.int .i64 ((Lib.count s.data.toList [32] : Nat) : Int)); rw [Lib.count_one]; rfl, hw⟩)
    (by decide) (by decide) (by rw [if_neg (by decide)]; omega)
set_option maxHeartbeats 1000000 in
theorem split4 (s : ByteArray) (w : World) (hs : s.size ≤ 1048576) :
    Calls Tryz.prog 119 #[.string s, .string ⟨#[32]⟩, .int .i64 4] w fun e w' =>
      e = .returned (.slice (some ⟨w.heap.size, 0, none⟩) (spl4 s).length (min 4 (s.size + 1))) ∧ w' = w.alloc (.cells (Lib.cellsOf (spl4 s) (min 4 (s.size + 1))) 9) := by
  have k := genSplit4 s w hs
  generalize (spl4 s).length = n at k
  generalize Lib.cellsOf (spl4 s) (min 4 (s.size + 1)) = C at k
  generalize min 4 (s.size + 1) = N at k
  go_enter Tryz.func119, Tryz.ntmps119
  go_wp2_with (go_at_call 143; refine k.mono ?_; rintro e w' ⟨rfl, hw⟩; rw [hw])
  go_ret
  exact ⟨rfl, rfl⟩

/-- What a reader that gives up panics with. -/
def panL (k : Int) : List PanicEntry := [{ v := .iface 96 (.int .i64 k), recovered := false }]
theorem implNewR (t : ByteArray) (w : World) :
    Calls Tryz.prog 47 #[.string t] w fun e w' => e = .returned (.pointer (some ⟨w.heap.size, 0, none⟩)) ∧ w' = w.alloc (.cells #[.string t, .int .i64 0] 63) := by
  go_enter Tryz.func47, Tryz.ntmps47
  go_wp2
  go_ret
  exact ⟨rfl, rfl⟩
set_option maxHeartbeats 1000000 in
theorem implWords_no (b : Nat) (t : ByteArray) (m : Int) (w : World) (h : Rdr w b t 0) (ht : t.size ≤ 1048576) (hm : w.cell? ⟨1, 0, none⟩ = some (.int .i64 m)) (hl : ∀ x r, lnC t.data.toList = some (x, r) → ¬ (wrdL x).length = 3) :
    Calls Tryz.prog 92 #[.pointer (some ⟨b, 0, none⟩)] w fun e w' => e = .panicked (panL 1) ∧ w.grownBy w' (some b) := by
  unfold panL
  cases hc : lnC t.data.toList with
  | none =>
    have hq := implLine_no b t 0 m w h (Nat.zero_le _) ht hm (by rw [List.drop_zero]; exact hc)
    have hs := fun W => split4 ⟨#[]⟩ W (by decide)
    generalize (spl4 ⟨#[]⟩).length = n at hs
    generalize Lib.cellsOf (spl4 ⟨#[]⟩) (min 4 ((⟨#[]⟩ : ByteArray).size + 1)) = C at hs
    generalize min 4 ((⟨#[]⟩ : ByteArray).size + 1) = N at hs
    clear hl hc h
    go_enter Tryz.func92, Tryz.ntmps92
    go_wp2_with fail
    refine hq.mono ?_
    rintro e w1 ⟨rfl, hb1⟩
    have hg1 : w.grownBy (w1.alloc (.cells C 9)) (some b) := grown_below (grown_below (grown_self w (some b)) hb1) ((Below.refl _ w1).alloc (Nat.le_refl _) _)
    go_wp2_with (go_at_call 119; refine (hs _).mono ?_; rintro e w2 ⟨rfl, hw⟩; rw [hw])
    exact ⟨rfl, rfl, hg1⟩
  | some p =>
    obtain ⟨x, r⟩ := p
    have hq := implLine_yes b t 0 m x r w h (Nat.zero_le _) ht hm (by rw [List.drop_zero]; exact hc)
    have hlen := congrArg List.length (lnC_length hc)
    rw [show t.data.toList.length = t.size by simp] at hlen
    simp only [List.length_append, List.length_cons, List.length_nil] at hlen
    have hxs : (txtL x).size = x.length := by show x.toArray.size = x.length; simp
    have hs := fun W => split4 (txtL x) W (by omega)
    have hn : ¬ (spl4 (txtL x)).length = 3 := by
      rw [spl4_len]
      show ¬ min 4 (wrdL x).length = 3
      have := hl x r hc
      omega
    generalize (spl4 (txtL x)).length = n at hs hn
    generalize Lib.cellsOf (spl4 (txtL x)) (min 4 ((txtL x).size + 1)) = C at hs
    generalize min 4 ((txtL x).size + 1) = N at hs
    generalize txtL x = X at hq hs
    have d1 : ((n : Int) == 3) = false := by simp; omega
    have d2 : ((n : Int) != 3) = true := by simp; omega
    clear hl hc h hxs hlen
    go_enter Tryz.func92, Tryz.ntmps92
    go_wp2_with fail
    refine hq.mono ?_
    rintro e w1 ⟨rfl, hr1, hg⟩
    have hg1 : w.grownBy (w1.alloc (.cells C 9)) (some b) := grown_below hg ((Below.refl _ w1).alloc (Nat.le_refl _) _)
    clear hr1
    go_wp2_with (go_at_call 119; refine (hs _).mono ?_; rintro e w2 ⟨rfl, hw⟩; rw [hw])
    exact ⟨rfl, rfl, hg1⟩
set_option maxHeartbeats 1000000 in
theorem implWords_yes (b : Nat) (t : ByteArray) (m : Int) (x r a1 a2 a3 : List UInt8) (w : World) (h : Rdr w b t 0) (ht : t.size ≤ 1048576) (hm : w.cell? ⟨1, 0, none⟩ = some (.int .i64 m)) (hc : lnC t.data.toList = some (x, r)) (hw3 : wrdL x = [a1, a2, a3]) :
    Calls Tryz.prog 92 #[.pointer (some ⟨b, 0, none⟩)] w fun e w' => e = .returned (.tuple #[.string (txtL a1), .string (txtL a2), .string (txtL a3)]) ∧ Rdr w' b t (x.length + 2) ∧ w.grownBy w' (some b) := by
  have hq := implLine_yes b t 0 m x r w h (Nat.zero_le _) ht hm (by rw [List.drop_zero]; exact hc)
  rw [Nat.zero_add] at hq
  have hlen := congrArg List.length (lnC_length hc)
  rw [show t.data.toList.length = t.size by simp] at hlen
  simp only [List.length_append, List.length_cons, List.length_nil] at hlen
  have hxs : (txtL x).size = x.length := by show x.toArray.size = x.length; simp
  have hs := fun W => split4 (txtL x) W (by omega)
  have h3 : spl4 (txtL x) = [txtL a1, txtL a2, txtL a3] := spl4_three hw3
  have hN : 3 ≤ min 4 ((txtL x).size + 1) ∧ min 4 ((txtL x).size + 1) ≤ 4 := by
    have := wrdL_few x
    rw [hw3] at this
    simp only [List.length_cons, List.length_nil] at this
    rw [hxs]
    omega
  rw [h3] at hs
  generalize min 4 ((txtL x).size + 1) = N at hs hN
  have k0 : ∀ W : World, (W.alloc (.cells (Lib.cellsOf [txtL a1, txtL a2, txtL a3] N) 9)).cell? ⟨W.heap.size, 0, none⟩ = some (.string (txtL a1)) := fun W => World.cell?_alloc_mark _ _ _ _ _
  have k1 : ∀ W : World, (W.alloc (.cells (Lib.cellsOf [txtL a1, txtL a2, txtL a3] N) 9)).cell? ⟨W.heap.size, 1, none⟩ = some (.string (txtL a2)) := fun W => World.cell?_alloc_mark _ _ _ _ _
  have k2 : ∀ W : World, (W.alloc (.cells (Lib.cellsOf [txtL a1, txtL a2, txtL a3] N) 9)).cell? ⟨W.heap.size, 2, none⟩ = some (.string (txtL a3)) := fun W => World.cell?_alloc_mark _ _ _ _ _
  generalize Lib.cellsOf [txtL a1, txtL a2, txtL a3] N = C at hs k0 k1 k2
  generalize txtL x = X at hq hs
  generalize txtL a1 = A1 at k0 ⊢
  generalize txtL a2 = A2 at k1 ⊢
  generalize txtL a3 = A3 at k2 ⊢
  simp only [List.length_cons, List.length_nil] at hs
  clear hc h hxs hlen hw3 h3
  go_enter Tryz.func92, Tryz.ntmps92
  go_wp2_with fail
  refine hq.mono ?_
  rintro e w1 ⟨rfl, hr1, hg⟩
  have c0 := k0 w1
  have c1 := k1 w1
  have c2 := k2 w1
  have al := (Below.refl _ w1).alloc (Nat.le_refl _) (.cells C 9)
  have HG : Hid (w.grownBy (w1.alloc (.cells C 9)) (some b)) := grown_below hg al
  have HR : Hid (Rdr (w1.alloc (.cells C 9)) b t (x.length + 2)) := hr1.kept al
  clear hr1 hg al k0 k1 k2
  have hs1 : Calls Tryz.prog 119 #[.string X, .string ⟨#[32]⟩, .int .i64 4] w1 fun e w' => ∃ g, e = .returned (.slice (some ⟨g, 0, none⟩) 3 N) ∧ w'.cell? ⟨g, 0, none⟩ = some (.string A1) ∧ w'.cell? ⟨g, 1, none⟩ = some (.string A2) ∧ w'.cell? ⟨g, 2, none⟩ = some (.string A3) ∧ w.grownBy w' (some b) ∧ Rdr w' b t (x.length + 2) := (hs w1).mono fun e w' ⟨h1, h2⟩ => by
    subst h2
    exact ⟨_, h1, c0, c1, c2, HG.out, HR.out⟩
  clear hs c0 c1 c2 HG HR
  go_wp2_with (go_at_call 119; refine hs1.mono ?_; rintro e w2 ⟨g, rfl, d0, d1, d2, hg2, hr2⟩; have HG : Hid (w.grownBy w2 (some b)) := hg2; have HR : Hid (Rdr w2 b t (x.length + 2)) := hr2; clear hg2 hr2)
  go_quiet (fail)
  go_wp2
  go_ret3
  exact ⟨rfl, HR.out.kept (drewN_below w2 _), grown_below HG.out (drewN_below w2 _)⟩
end Go.Proofs.YtmgmphkncgochaaGreatDoor
namespace Go.Proofs.YtmgmphkncgochaaGreatDoor
open Go.RowKit Go.Sort
set_option linter.unusedVariables false

/-! ### A line whose words are right has no other line end in it -/
theorem wrdL_holds : ∀ {x : List UInt8} {c : UInt8}, c ∈ x → c ≠ 32 → ∃ y ∈ wrdL x, c ∈ y
  | [], _, h, _ => by cases h
  | d :: x, c, h, hn => by
    rcases List.mem_cons.1 h with rfl | h
    · obtain ⟨y, ys, e⟩ := wrdL_ne x
      rw [wrdL, if_neg hn, e]
      exact ⟨c :: y, by simp, by simp⟩
    · obtain ⟨y, hy, hc⟩ := wrdL_holds h hn
      rw [wrdL]
      split
      · exact ⟨y, by simp [hy], hc⟩
      · split
        · rename_i z zs e
          rw [e] at hy
          rcases List.mem_cons.1 hy with rfl | hy
          · exact ⟨d :: y, by simp, by simp [hc]⟩
          · exact ⟨y, by simp [hy], hc⟩
        · rename_i e
          rw [e] at hy
          cases hy
theorem lnS_good {t x r m g v : List UInt8} (hc : lnC t = some (x, r)) (hw : wrdL x = [m, g, v]) (h1 : ∀ c ∈ m, c ≠ 13 ∧ c ≠ 10) (h2 : ∀ c ∈ g, c ≠ 13 ∧ c ≠ 10) (h3 : ∀ c ∈ v, c ≠ 13 ∧ c ≠ 10) : lnS t = some (x, r) := by
  cases h : lnS t with
  | none =>
    obtain ⟨c, hcx, hc2⟩ := lnS_none h hc
    have h32 : c ≠ 32 := by rcases hc2 with rfl | rfl <;> decide
    obtain ⟨y, hy, hcy⟩ := wrdL_holds hcx h32
    rw [hw] at hy
    simp only [List.mem_cons, List.not_mem_nil, or_false] at hy
    have : c ≠ 13 ∧ c ≠ 10 := by
      rcases hy with rfl | rfl | rfl
      · exact h1 c hcy
      · exact h2 c hcy
      · exact h3 c hcy
    rcases hc2 with rfl | rfl
    · exact absurd rfl this.1
    · exact absurd rfl this.2
  | some p =>
    obtain ⟨x', r'⟩ := p
    rw [(lnS_some h).1] at hc
    rw [hc]
theorem bytes_ok {p : Int → Bool} {l : List UInt8} (h : allB p l = true) (h13 : p 13 = false) (h10 : p 10 = false) : ∀ c ∈ l, c ≠ 13 ∧ c ≠ 10 := by
  intro c hc
  unfold allB at h
  have := List.all_eq_true.1 h c hc
  refine ⟨fun e => ?_, fun e => ?_⟩
  · subst e; rw [show (((13 : UInt8).toNat : Nat) : Int) = 13 from rfl, h13] at this; cases this
  · subst e; rw [show (((10 : UInt8).toNat : Nat) : Int) = 10 from rfl, h10] at this; cases this
theorem met_clean {m : List UInt8} (h : metB (txtL m) = true) : ∀ c ∈ m, c ≠ 13 ∧ c ≠ 10 := by
  unfold metB at h
  rw [Bool.and_eq_true] at h
  exact bytes_ok (p := capN) h.1 (by decide) (by decide)
theorem tar_clean {m : List UInt8} (h : tarB (txtL m) = true) : ∀ c ∈ m, c ≠ 13 ∧ c ≠ 10 := by
  unfold tarB at h
  rw [Bool.and_eq_true] at h
  exact bytes_ok (p := tarN) h.2 (by decide) (by decide)
theorem tok_clean {m : List UInt8} (h : tokB (txtL m) = true) : ∀ c ∈ m, c ≠ 13 ∧ c ≠ 10 := by
  unfold tokB at h
  rw [Bool.and_eq_true] at h
  exact bytes_ok (p := tokN) h.2 (by decide) (by decide)
theorem num_clean {m : List UInt8} (h : numOk 10 15 (txtL m) = true) : ∀ c ∈ m, c ≠ 13 ∧ c ≠ 10 := by
  unfold numOk at h
  rw [Bool.and_eq_true] at h
  exact bytes_ok (p := digN 10) h.2 (by decide) (by decide)
theorem hv_clean {m : List UInt8} (h : txtL m = hvS) : ∀ c ∈ m, c ≠ 13 ∧ c ≠ 10 := by
  have e : m = [72, 84, 84, 80, 47, 49, 46, 49] := by have := congrArg (·.data.toList) h; exact this
  subst e
  decide
def goodQ (m g v : List UInt8) : Prop := metB (txtL m) = true ∧ tarB (txtL g) = true ∧ txtL v = hvS
def goodS (v g o : List UInt8) : Prop := txtL v = hvS ∧ staOk g = true ∧ tokB (txtL o) = true
theorem goodQ_line {t x r m g v : List UInt8} (hc : lnC t = some (x, r)) (hw : wrdL x = [m, g, v]) (h : goodQ m g v) : lnS t = some (x, r) := lnS_good hc hw (met_clean h.1) (tar_clean h.2.1) (hv_clean h.2.2)
theorem goodS_line {t x r v g o : List UInt8} (hc : lnC t = some (x, r)) (hw : wrdL x = [v, g, o]) (h : goodS v g o) : lnS t = some (x, r) := by
  have h2 := h.2.1
  unfold staOk at h2
  rw [Bool.and_eq_true, Bool.and_eq_true] at h2
  exact lnS_good hc hw (hv_clean h.1) (num_clean h2.2.1) (tok_clean h.2.2)
theorem badQ {t : List UInt8} (h : ∀ x r m g v, lnC t = some (x, r) → wrdL x = [m, g, v] → ¬ goodQ m g v) : rdRq t = (1, noQ, 0) := by
  cases hl : lnS t with
  | none => exact rq_none hl
  | some p =>
    obtain ⟨x, r⟩ := p
    by_cases h3 : (wrdL x).length = 3
    · obtain ⟨m, g, v, hw⟩ := three_of h3
      exact rq_line hl hw (h x r m g v (lnS_some hl).1 hw)
    · exact rq_words hl h3
theorem badS {t : List UInt8} (h : ∀ x r v g o, lnC t = some (x, r) → wrdL x = [v, g, o] → ¬ goodS v g o) : rdRs t = (1, noS, 0) := by
  cases hl : lnS t with
  | none => exact rs_none hl
  | some p =>
    obtain ⟨x, r⟩ := p
    by_cases h3 : (wrdL x).length = 3
    · obtain ⟨m, g, v, hw⟩ := three_of h3
      exact rs_line hl hw (h x r m g v (lnS_some hl).1 hw)
    · exact rs_words hl h3
theorem word_few {t x r a1 a2 a3 : List UInt8} (hc : lnC t = some (x, r)) (hw : wrdL x = [a1, a2, a3]) (ht : t.length ≤ 1048576) : x.length + 2 ≤ t.length ∧ (txtL a1).size ≤ 1048576 ∧ (txtL a2).size ≤ 1048576 ∧ (txtL a3).size ≤ 1048576 := by
  have hlen := congrArg List.length (lnC_length hc)
  simp only [List.length_append, List.length_cons, List.length_nil] at hlen
  have hs := word_size hw
  have z : ∀ a : List UInt8, (txtL a).size = a.length := fun a => by show a.toArray.size = a.length; simp
  have h1 := hs a1 (by simp)
  have h2 := hs a2 (by simp)
  have h3 := hs a3 (by simp)
  rw [z, z, z]
  omega

/-! ### The first line of a request -/
set_option maxHeartbeats 1000000 in
theorem implRqLine_no (b : Nat) (t : ByteArray) (m : Int) (w : World) (h : Rdr w b t 0) (ht : t.size ≤ 1048576) (hm : w.cell? ⟨1, 0, none⟩ = some (.int .i64 m)) (hbad : ∀ x r m g v, lnC t.data.toList = some (x, r) → wrdL x = [m, g, v] → ¬ goodQ m g v) :
    Calls Tryz.prog 48 #[.pointer (some ⟨b, 0, none⟩)] w fun e w' => e = .panicked (panL 1) ∧ w.grownBy w' (some b) := by
  by_cases hyes : ∃ x r a1 a2 a3, lnC t.data.toList = some (x, r) ∧ wrdL x = [a1, a2, a3]
  · obtain ⟨x, r, a1, a2, a3, hc, hw⟩ := hyes
    have hq := implWords_yes b t m x r a1 a2 a3 w h ht hm hc hw
    have hn := hbad x r a1 a2 a3 hc hw
    obtain ⟨_, z1, z2, z3⟩ := word_few hc hw (by simpa using ht)
    unfold goodQ at hn
    generalize txtL a1 = A1 at hq hn z1
    generalize txtL a2 = A2 at hq hn z2
    generalize txtL a3 = A3 at hq hn z3
    clear hbad hc hw h
    unfold panL
    go_enter Tryz.func48, Tryz.ntmps48
    go_wp2_with fail
    refine hq.mono ?_
    rintro e w1 ⟨rfl, hr1, hg1⟩
    clear hr1
    go_wp2_with fail
    refine (implMet A1 _ (le_max z1)).mono ?_
    rintro e w2 ⟨rfl, hb2⟩
    have hg2 := grown_below hg1 hb2
    clear hg1 hb2
    cases h1 : metB A1 with
    | false =>
      clear hn
      go_wp2
      exact ⟨rfl, rfl, hg2⟩
    | true =>
      go_wp2_with fail
      refine (implTar A2 _ (le_max z2)).mono ?_
      rintro e w3 ⟨rfl, hb3⟩
      have hg3 := grown_below hg2 hb3
      clear hg2 hb3
      cases h2 : tarB A2 with
      | false =>
        clear hn
        go_wp2
        exact ⟨rfl, rfl, hg3⟩
      | true =>
        have d := (diff_hv (fun e => hn ⟨h1, h2, e⟩)).1
        clear hn
        go_wp2
        exact ⟨rfl, rfl, hg3⟩
  · have hq := implWords_no b t m w h ht hm (fun x r hc h3 => by obtain ⟨a1, a2, a3, hw⟩ := three_of h3; exact hyes ⟨x, r, a1, a2, a3, hc, hw⟩)
    clear hbad hyes h
    unfold panL at hq ⊢
    go_enter Tryz.func48, Tryz.ntmps48
    go_wp2_with fail
    refine hq.mono ?_
    rintro e w1 ⟨rfl, hg1⟩
    exact ⟨rfl, rfl, hg1⟩
set_option maxHeartbeats 1000000 in
theorem implRqLine_yes (b : Nat) (t : ByteArray) (m : Int) (x r a1 a2 a3 : List UInt8) (w : World) (h : Rdr w b t 0) (ht : t.size ≤ 1048576) (hm : w.cell? ⟨1, 0, none⟩ = some (.int .i64 m)) (hc : lnC t.data.toList = some (x, r)) (hw : wrdL x = [a1, a2, a3]) (hg : goodQ a1 a2 a3) :
    Calls Tryz.prog 48 #[.pointer (some ⟨b, 0, none⟩)] w fun e w' => e = .returned (.tuple #[.string (txtL a1), .string (txtL a2)]) ∧ Rdr w' b t (x.length + 2) ∧ w.grownBy w' (some b) := by
  have hq := implWords_yes b t m x r a1 a2 a3 w h ht hm hc hw
  obtain ⟨_, z1, z2, z3⟩ := word_few hc hw (by simpa using ht)
  obtain ⟨g1, g2, g3⟩ := hg
  generalize txtL a1 = A1 at hq z1 g1 ⊢
  generalize txtL a2 = A2 at hq z2 g2 ⊢
  generalize txtL a3 = A3 at hq z3 g3
  have d := (same_hv g3).1
  clear hc hw h g3
  go_enter Tryz.func48, Tryz.ntmps48
  go_wp2_with fail
  refine hq.mono ?_
  rintro e w1 ⟨rfl, hr1, hg1⟩
  have R1 : Hid (Rdr w1 b t (x.length + 2)) := hr1
  clear hr1
  go_wp2_with fail
  refine (implMet A1 _ (le_max z1)).mono ?_
  rintro e w2 ⟨rfl, hb2⟩
  have R2 : Hid (Rdr w2 b t (x.length + 2)) := R1.out.kept hb2
  have hg2 := grown_below hg1 hb2
  clear hg1 hb2 R1
  rw [g1]
  go_wp2_with fail
  refine (implTar A2 _ (le_max z2)).mono ?_
  rintro e w3 ⟨rfl, hb3⟩
  have R3 : Hid (Rdr w3 b t (x.length + 2)) := R2.out.kept hb3
  have hg3 := grown_below hg2 hb3
  clear hg2 hb3 R2
  rw [g2]
  go_wp2_with fail
  refine (clone A1 _ z1).mono ?_
  rintro e w4 ⟨rfl, hb4⟩
  have R4 : Hid (Rdr w4 b t (x.length + 2)) := R3.out.kept hb4
  have hg4 := grown_below hg3 hb4
  clear hg3 hb4 R3
  go_wp2_with fail
  refine (clone A2 _ z2).mono ?_
  rintro e w5 ⟨rfl, hb5⟩
  have R5 : Hid (Rdr w5 b t (x.length + 2)) := R4.out.kept hb5
  have hg5 := grown_below hg4 hb5
  clear hg4 hb5 R4
  go_wp2
  go_ret2
  exact ⟨rfl, R5.out, hg5⟩
end Go.Proofs.YtmgmphkncgochaaGreatDoor

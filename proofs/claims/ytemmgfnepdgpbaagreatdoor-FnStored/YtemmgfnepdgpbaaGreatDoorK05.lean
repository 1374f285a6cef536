/-
  The contracts of VisibleOk, the specification's and the program's: both answer whether the text is visible.
  Plain facts on items: the parts of a text between commas at which none is open, each trimmed, none empty; and slices of texts that a call owns.
  The contracts of Lower, the specification's and the program's: both answer the text with each capital made small.
  The contracts of the functions that tell a token.
-/
import Derived.Test.YtemmgfnepdgpbaaGreatDoorRows
import Derived.Test.YtemmgfnepdgpbaaGreatDoorK02
import Derived.WalkKit
import Derived.WalkSpells
import Derived.Test.YtemmgfnepdgpbaaGreatDoorK04
import Derived.Test.YtemmgfnepdgpbaaGreatDoorK03
import Derived.Test.YtemmgfnepdgpbaaGreatDoorK01
namespace Go.Proofs.YtemmgfnepdgpbaaGreatDoor
open Go.RowKit

/-- The number of a visible byte. -/
def visN (r : Int) : Bool := decide ((32 ≤ r ∧ r ≤ 126) ∨ r = 9)
theorem visN_yes {r : Int} (h : (32 ≤ r ∧ r ≤ 126) ∨ r = 9) : visN r = true := decide_eq_true h
theorem visN_no {r : Int} (h : ¬ ((32 ≤ r ∧ r ≤ 126) ∨ r = 9)) : visN r = false := decide_eq_false h
/-- A visible text. -/
def visB (s : ByteArray) : Bool := decide (s.size ≤ 400) && allB visN s.data.toList
theorem visB_out {s : ByteArray} (h : 400 < s.size) : false = visB s := by
  have e : decide (s.size ≤ 400) = false := decide_eq_false (by omega)
  unfold visB; rw [e]; rfl
theorem visB_in {s : ByteArray} {b : Bool} (h2 : s.size ≤ 400) (h : b = allB visN s.data.toList) : b = visB s := by
  have e : decide (s.size ≤ 400) = true := decide_eq_true h2
  unfold visB; rw [e, h]; rfl
theorem bne_yes {a b : Int} (h : a ≠ b) : (a != b) = true := by simp [h]
theorem bne_no {a b : Int} (h : a = b) : (a != b) = false := by simp [h]

theorem specVis_out (s : ByteArray) (w : World) (hs : s.size ≤ maxLen) (h : 400 < s.size) :
    Calls Tryz.prog 94 #[.string s] w fun e w' => e = .returned (.bool (visB s)) ∧ w' = w := by
  unfold maxLen at hs
  have ht := visB_out h
  have HT : Hid (false = visB s) := ht
  clear ht
  go_enter Tryz.func94, Tryz.ntmps94
  go_wp2
  go_ret
  exact ⟨ret_bool HT.out, rfl⟩

set_option maxHeartbeats 400000 in
theorem specVis_in (s : ByteArray) (w : World) (h2 : s.size ≤ 400) :
    Calls Tryz.prog 94 #[.string s] w fun e w' => e = .returned (.bool (visB s)) ∧ w' = w := by
  have d2 : decide (400 < (s.size : Int)) = false := by simp; omega
  go_enter Tryz.func94, Tryz.ntmps94
  go_wp2
  go_loop [3] (fun i => ∃ k : Nat, k ≤ s.size ∧ i = .int .i64 k ∧ Hid (allB visN (s.data.toList.take k) = true)) (fun i => s.size - (intOf i).toNat)
  case atStart => exact ⟨0, Nat.zero_le _, rfl, allB_nil _ _⟩
  case round =>
    obtain ⟨k, hk, rfl, ha⟩ := hrel
    by_cases hlt : k < s.size
    · by_cases h9 : (s[k].toNat : Int) = 9
      · have hv := allB_step hlt ha.out (visN_yes (Or.inr h9))
        have HV : Hid (allB visN (s.data.toList.take (k + 1)) = true) := hv
        have hq := bne_no h9
        have hl : (s[k].toNat : Int) < 32 := by omega
        clear hv h9
        go_wp2
        go_round
        case rel => exact ⟨k + 1, by omega, by go_num, HV⟩
        case measure => simp [intOf]; omega
      · have hq := bne_yes h9
        by_cases hl : (s[k].toNat : Int) < 32
        · have hf := allB_not (p := visN) hlt (visN_no (by omega))
          have HF : Hid (false = allB visN s.data.toList) := hf
          clear hf h9
          go_wp2
          go_ret
          exact ⟨ret_bool (visB_in h2 HF.out), rfl⟩
        · by_cases hg : 126 < (s[k].toNat : Int)
          · have hf := allB_not (p := visN) hlt (visN_no (by omega))
            have HF : Hid (false = allB visN s.data.toList) := hf
            clear hf h9
            go_wp2
            go_ret
            exact ⟨ret_bool (visB_in h2 HF.out), rfl⟩
          · have hv := allB_step hlt ha.out (visN_yes (by omega))
            have HV : Hid (allB visN (s.data.toList.take (k + 1)) = true) := hv
            clear hv h9
            go_wp2
            go_round
            case rel => exact ⟨k + 1, by omega, by go_num, HV⟩
            case measure => simp [intOf]; omega
    · go_wp2
      go_ret
      exact ⟨ret_bool (visB_in h2 (allB_end hlt ha.out)), rfl⟩

theorem specVis (s : ByteArray) (w : World) (hs : s.size ≤ maxLen) :
    Calls Tryz.prog 94 #[.string s] w fun e w' => e = .returned (.bool (visB s)) ∧ w' = w := by
  by_cases h : 400 < s.size
  · exact specVis_out s w hs h
  · exact specVis_in s w (by omega)

theorem implVis_out (s : ByteArray) (w : World) (hs : s.size ≤ maxLen) (h : 400 < s.size) :
    Calls Tryz.prog 118 #[.string s] w fun e w' => e = .returned (.bool (visB s)) ∧ Below w.heap.size w w' := by
  unfold maxLen at hs
  have ht := visB_out h
  have HT : Hid (false = visB s) := ht
  clear ht
  go_enter Tryz.func118, Tryz.ntmps118
  go_wp2
  go_ret
  exact ⟨ret_bool HT.out, Below.refl _ _⟩

set_option maxHeartbeats 400000 in
theorem implVis_in (s : ByteArray) (w : World) (h2 : s.size ≤ 400) :
    Calls Tryz.prog 118 #[.string s] w fun e w' => e = .returned (.bool (visB s)) ∧ Below w.heap.size w w' := by
  have d2 : decide (400 < (s.size : Int)) = false := by simp; omega
  go_enter Tryz.func118, Tryz.ntmps118
  go_wp2
  go_loopw [4] (fun _ wr => ∃ pos : Nat, pos ≤ s.size ∧ wr = w.iter s pos ∧ Hid (allB visN (s.data.toList.take pos) = true)) (fun _ wr => s.size - wr.iterPos w.heap.size)
  case atStart => exact ⟨0, Nat.zero_le _, rfl, allB_nil _ _⟩
  case round =>
    obtain ⟨pos, hpos, rfl, ha⟩ := hrel
    by_cases hp : pos < s.size
    · by_cases hasc : (s[pos]).toNat < 128
      · have hnx : ∀ ty, (Instr.next (.pointer (some ⟨w.heap.size, 0, none⟩)) true ty).run Tryz.prog (w.iter s pos) = _ := fun ty => run_next_ascii w s pos ty hp hasc
        by_cases h9 : (s[pos].toNat : Int) = 9
        · have hv := allB_step hp ha.out (visN_yes (Or.inr h9))
          have HV : Hid (allB visN (s.data.toList.take (pos + 1)) = true) := hv
          have hq := bne_no h9
          clear hv h9
          go_wp2
          go_roundw
          case rel => exact ⟨pos + 1, by omega, rfl, HV⟩
          case measure => simp; omega
        · have hq := bne_yes h9
          by_cases hl : (s[pos].toNat : Int) < 32
          · have hf := allB_not (p := visN) hp (visN_no (by omega))
            have HF : Hid (false = allB visN s.data.toList) := hf
            clear hf h9
            go_wp2
            go_ret
            exact ⟨ret_bool (visB_in h2 HF.out), below_iter _ _ _⟩
          · by_cases hg : 126 < (s[pos].toNat : Int)
            · have hf := allB_not (p := visN) hp (visN_no (by omega))
              have HF : Hid (false = allB visN s.data.toList) := hf
              clear hf h9
              go_wp2
              go_ret
              exact ⟨ret_bool (visB_in h2 HF.out), below_iter _ _ _⟩
            · have hv := allB_step hp ha.out (visN_yes (by omega))
              have HV : Hid (allB visN (s.data.toList.take (pos + 1)) = true) := hv
              clear hv h9
              go_wp2
              go_roundw
              case rel => exact ⟨pos + 1, by omega, rfl, HV⟩
              case measure => simp; omega
      · have hnx : ∀ ty, (Instr.next (.pointer (some ⟨w.heap.size, 0, none⟩)) true ty).run Tryz.prog (w.iter s pos) = _ := fun ty => run_next_any w s pos ty hp
        have hd := (decode_high s pos hp (by omega)).1
        have hf := allB_not (p := visN) hp (visN_no (by omega))
        have HF : Hid (false = allB visN s.data.toList) := hf
        clear hf
        generalize (Utf8.decode s pos).1 = r at hnx hd
        generalize (Utf8.decode s pos).2 = p2 at hnx
        have hq : ((r : Int) != 9) = true := bne_yes (by omega)
        have hl : ¬ (r : Int) < 32 := by omega
        have hg : 126 < (r : Int) := by omega
        go_wp2
        go_ret
        exact ⟨ret_bool (visB_in h2 HF.out), below_iter _ _ _⟩
    · have hnx : ∀ ty, (Instr.next (.pointer (some ⟨w.heap.size, 0, none⟩)) true ty).run Tryz.prog (w.iter s pos) = _ := fun ty => run_next_end w s pos ty hp
      go_wp2
      go_ret
      exact ⟨ret_bool (visB_in h2 (allB_end hp ha.out)), below_iter _ _ _⟩

theorem implVis (s : ByteArray) (w : World) (hs : s.size ≤ maxLen) :
    Calls Tryz.prog 118 #[.string s] w fun e w' => e = .returned (.bool (visB s)) ∧ Below w.heap.size w w' := by
  by_cases h : 400 < s.size
  · exact implVis_out s w hs h
  · exact implVis_in s w (by omega)
end Go.Proofs.YtemmgfnepdgpbaaGreatDoor
namespace Go.Proofs.YtemmgfnepdgpbaaGreatDoor
open Go.RowKit

/-- The parts: what was read of the one at hand, whether one is open, what is still to be read. -/
def partsF (cur : List UInt8) (op : Bool) : List UInt8 → List (List UInt8)
  | [] => [cur]
  | [c] => if op = false ∧ c.toNat = 44 then [cur, []] else [cur ++ [c]]
  | c :: d :: r =>
    if op = false ∧ c.toNat = 44 then cur :: partsF [] false (d :: r)
    else if c.toNat = 34 then partsF (cur ++ [c]) (!op) (d :: r)
    else if op = true ∧ c.toNat = 92 then partsF (cur ++ [c] ++ [d]) true r
    else partsF (cur ++ [c]) op (d :: r)

theorem partsF_nil (cur : List UInt8) (op : Bool) : partsF cur op [] = [cur] := by rw [partsF]
theorem partsF_take {c : UInt8} (cur r : List UInt8) (h : c.toNat = 92) : partsF cur true (c :: r) = match r with | [] => [cur ++ [c]] | d :: r' => partsF (cur ++ [c] ++ [d]) true r' := by
  cases r with
  | nil => simp [partsF]
  | cons d r => simp [partsF, h]
/-- The trimmed part, where it is not empty. -/
def one (x : ByteArray) : List ByteArray := if 0 < (trimB x).size then [trimB x] else []
def itemsOf (ps : List (List UInt8)) : List ByteArray := ps.flatMap fun p => one ⟨p.toArray⟩
theorem itemsOf_one (p : List UInt8) : itemsOf [p] = one ⟨p.toArray⟩ := by simp [itemsOf]

/-- The bytes from place a to place i. -/
def cutL (l : List UInt8) (a i : Nat) : List UInt8 := (l.take i).drop a
theorem cutL_self (l : List UInt8) (a : Nat) : cutL l a a = [] := by
  unfold cutL; exact List.drop_of_length_le (List.length_take_le _ _)
theorem cutL_next {s : ByteArray} {a i : Nat} (h : i < s.size) (ha : a ≤ i) : cutL s.data.toList a i ++ [s[i]] = cutL s.data.toList a (i + 1) := by
  unfold cutL
  rw [take_snoc s i h, List.drop_append_of_le_length]
  rw [List.length_take]
  have : s.data.toList.length = s.size := by simp
  omega
theorem cutL_past {s : ByteArray} {a i : Nat} (h : s.size ≤ i) : cutL s.data.toList a (i + 1) = cutL s.data.toList a i := by
  unfold cutL
  have e : s.data.toList.length = s.size := by simp
  rw [List.take_of_length_le (by omega), List.take_of_length_le (by omega)]
theorem drop_at' (s : ByteArray) (i : Nat) (h : i < s.size) : s.data.toList.drop i = s[i] :: s.data.toList.drop (i + 1) := by
  rw [List.drop_eq_getElem_cons (by simpa using h)]; rfl
theorem drop_past' (s : ByteArray) (i : Nat) (h : ¬ i < s.size) : s.data.toList.drop i = [] :=
  List.drop_of_length_le (by have e : s.data.toList.length = s.size := by simp
                             omega)
theorem ext_bytes {a b : ByteArray} (h : a.data.toList = b.data.toList) : a = b := by
  have : a.data = b.data := Array.ext' h
  cases a; cases b; exact congrArg _ this
theorem cut_text (s : ByteArray) (a i : Nat) (_hi : i ≤ s.size) : s.extract a i = ⟨(cutL s.data.toList a i).toArray⟩ := by
  apply ext_bytes
  rw [ByteArray.data_extract, Array.toList_extract]
  show (s.data.toList.drop a).take (i - a) = (s.data.toList.take i).drop a
  rw [List.drop_take]

/-- The items of a text. -/
def itemsT (s : ByteArray) : List ByteArray := itemsOf (partsF [] false s.data.toList)
/-- What stands at a state: the items so far, and those of what is still to be read. -/
def At (s : ByteArray) (out : List ByteArray) (a i : Nat) (op : Bool) : Prop := itemsT s = out ++ itemsOf (partsF (cutL s.data.toList a i) op (s.data.toList.drop i))
theorem At.start (s : ByteArray) : At s [] 0 0 false := rfl
/-- A byte 92 takes the byte behind it along, if there is one. -/
theorem At.take {s : ByteArray} {out : List ByteArray} {a i : Nat} (h : At s out a i true) (hi : i < s.size) (ha : a ≤ i) (hc : (s[i].toNat : Int) = 92) : At s out a (i + 2) true := by
  unfold At at *
  rw [h, drop_at' s i hi, partsF_take _ _ (by omega)]
  by_cases hn : i + 1 < s.size
  · rw [drop_at' s (i + 1) hn]
    show out ++ itemsOf (partsF (cutL s.data.toList a i ++ [s[i]] ++ [s[i + 1]]) true (s.data.toList.drop (i + 1 + 1))) = _
    rw [cutL_next hi ha, cutL_next hn (by omega)]
  · rw [drop_past' s (i + 1) hn, drop_past' s (i + 2) (by omega), partsF_nil]
    show out ++ itemsOf [cutL s.data.toList a i ++ [s[i]]] = _
    rw [cutL_next hi ha, cutL_past (i := i + 1) (by omega)]
/-- At the end of it (or one past it) the last part is taken. -/
theorem At.done {s : ByteArray} {out : List ByteArray} {a i : Nat} {op : Bool} (h : At s out a i op) (hi : ¬ i < s.size) : out ++ one (s.extract a s.size) = itemsT s := by
  unfold At at h
  have e : s.data.toList.length = s.size := by simp
  have e2 : cutL s.data.toList a i = cutL s.data.toList a s.size := by
    unfold cutL; rw [List.take_of_length_le (by omega), List.take_of_length_le (by omega)]
  rw [h, drop_past' s i hi, partsF_nil, itemsOf_one, cut_text s a s.size (Nat.le_refl _), e2]
/-- A last byte 92 that takes nothing along, as the specification reads it. -/
theorem At.last {s : ByteArray} {out : List ByteArray} {a i : Nat} (h : At s out a i true) (hi : i < s.size) (ha : a ≤ i) (hc : (s[i].toNat : Int) = 92) (hn : ¬ i + 1 < s.size) : At s out a (i + 1) true := by
  have h2 := h.take hi ha hc
  unfold At at *
  rw [h2, drop_past' s (i + 1) hn, drop_past' s (i + 2) (by omega), cutL_past (i := i + 1) (by omega)]

/-! ### Slices of texts that a call owns -/
theorem Tryz.info9 : (Tryz.prog.info? 9).map (fun i => (i.zero, i.size, i.bytes)) = some (some (.string ⟨#[]⟩), 1, 16) := by kernel_rfl

/-- The value v is a slice that is not nil and owns the texts l, in a block from B on. -/
def OwnsS (w : World) (B : Nat) (v : Value) (l : List ByteArray) : Prop := (∃ g cap, v = .slice (some ⟨g, 0, none⟩) l.length cap ∧ B ≤ g ∧ g < w.heap.size) ∧ w.ownsRow B 9 1 v l.length (l.map Value.string)

theorem OwnsS.born (w : World) : OwnsS (w.alloc (.cells #[] 9)) w.heap.size (.slice (some ⟨w.heap.size, 0, none⟩) 0 0) [] :=
  ⟨⟨w.heap.size, 0, rfl, Nat.le_refl _, by simp⟩, World.ownsRow_lit w #[] 0 (Nat.le_refl _) (by unfold maxLen; decide) rfl⟩
theorem OwnsS.alloc {w : World} {B : Nat} {v : Value} {l : List ByteArray} (h : OwnsS w B v l) (o : Obj) : OwnsS (w.alloc o) B v l := by
  obtain ⟨⟨g, cap, hv, hb, hg⟩, ho⟩ := h
  exact ⟨⟨g, cap, hv, hb, by simp; omega⟩, ho.alloc o⟩
theorem OwnsS.drew {w : World} {B : Nat} {v : Value} {l : List ByteArray} (h : OwnsS w B v l) : OwnsS w.drew B v l := h
theorem OwnsS.kept {w w' : World} {B : Nat} {v : Value} {l : List ByteArray} (h : OwnsS w B v l) (hb : Below w.heap.size w w') : OwnsS w' B v l := by
  obtain ⟨⟨g, cap, hv, hbg, hg⟩, h1, h2⟩ := h
  refine ⟨⟨g, cap, hv, hbg, by have := hb.size; omega⟩, h1, ?_⟩
  rcases h2 with h0 | ⟨g', cap', cur, hv', hb', hg', rest⟩
  · exact .inl h0
  · exact .inr ⟨g', cap', cur, hv', hb', by rw [hb.block g' (Array.getElem?_eq_some_iff.1 hg').1]; exact hg', rest⟩
theorem OwnsS.from {w : World} {B : Nat} {v : Value} {l : List ByteArray} (h : OwnsS w B v l) : ∀ k, v.ownBlock = some k → B ≤ k := fun k hk => (World.ownsRow.lt h.2 k hk).1

/-- One text appended. -/
theorem wpList_pushS {ops : Array Oper} {rest : List Oper} {o : Oper} {a : Act} {Q : Exit → Act → World → Prop} (w : World) (hgd : o.guard = none) (s x : Operand)
    (ho : o.op = .call { callee := .builtin .append, args := #[s, x], argTypes := #[39, 39] }) (B : Nat) (v : Value) (l : List ByteArray) (c : ByteArray) (hs : a.eval s = v) (hown : OwnsS w B v l)
    (hx : a.eval x = .slice (some ⟨w.heap.size, 0, none⟩) 1 1) (hlen : l.length ≤ 7000000000000) (hB : B ≤ w.heap.size)
    (h : ∀ v' w', OwnsS w' B v' (l ++ [c]) → w.grownBy w' v.ownBlock → wpList Tryz.prog ops Q rest (a.put o.dst v') w') :
    wpList Tryz.prog ops Q (o :: rest) a (w.alloc (.cells #[.string c] 9)) := by
  obtain ⟨i0, hi, hz0, hz1, hz2⟩ := info_parts Tryz.info9
  refine wpList_append_own _ hgd s x 39 ho B 9 i0 (.string ⟨#[]⟩) 1 16 Tryz.underlying39 hi hz0 hz1 hz2 rfl (by decide) v l.length (l.map Value.string) hs (hown.2.alloc _) ⟨w.heap.size, 0, none⟩ 1 1 [.string c] hx rfl (cell_one_new _ _ _)
    (by intro u hu; simp at hu; subst hu; rfl) (by unfold maxLen; omega) (by omega) (by simp; omega) ?_
  intro v' w' h1 h2 h3
  refine h v' w' ?_ ⟨h2.os, h2.tape, h2.output, ?_, ?_⟩
  · have h1' : w'.ownsRow B 9 1 v' (l ++ [c]).length ((l ++ [c]).map Value.string) := by
      rw [List.map_append, List.length_append]
      exact h1
    refine ⟨?_, h1'⟩
    rcases h1'.2 with ⟨h0, _⟩ | ⟨g, cap, cur, hv, hb, hg, rest⟩
    · have := (h3.1 h0).2
      omega
    · exact ⟨g, cap, hv, hb, (Array.getElem?_eq_some_iff.1 hg).1⟩
  · have := h2.size
    simp at this
    omega
  · intro k hk hne
    rw [h2.block k (by simp; omega) hne]
    exact Below.heap_alloc _ _ _ hk
end Go.Proofs.YtemmgfnepdgpbaaGreatDoor
namespace Go.Proofs.YtemmgfnepdgpbaaGreatDoor
open Go.RowKit

theorem len_data (s : ByteArray) : s.data.toList.length = s.size := by simp

/-- The text with each capital made small. -/
def lowS (s : ByteArray) : ByteArray := ⟨(s.data.toList.map lowB).toArray⟩

theorem addr_at (B j : Nat) : (⟨B, 0, none⟩ : Addr).add j = ⟨B, j, none⟩ := by
  cases j with
  | zero => rfl
  | succ j => simp [Addr.add]
theorem iterPos_put (A : World) (a : Addr) (v : Value) (k : Nat) (h : k ≠ a.block) : (A.setCell a v).iterPos k = A.iterPos k := by
  unfold World.iterPos; rw [Below.heap_setCell _ _ _ _ h]
theorem back_low (s : ByteArray) (k : Nat) (hk : ¬ k < s.size) (wr : World) (B cap : Nat) (h : RowIs wr B (cur lowB s.data.toList k)) :
    (convert 22 9 (.slice (some ⟨B, 0, none⟩) s.size cap)).run Tryz.prog wr = .ok (.string (lowS s)) wr := by
  rw [cur_all lowB _ k (by rw [len_data]; exact hk)] at h
  have hl : (s.data.toList.map lowB).length = s.size := by rw [List.length_map, len_data]
  have := run_convert_bytes_back (P := Tryz.prog) wr 22 9 5 ⟨B, 0, none⟩ cap (s.data.toList.map lowB) Tryz.underlying22 Tryz.underlying5 Tryz.underlying9 (fun j hj => by
    rw [addr_at]
    exact (h j hj).1)
  rw [hl] at this
  exact this

set_option maxHeartbeats 400000 in
theorem specLow (s : ByteArray) (w : World) (hs : s.size ≤ maxLen) :
    Calls Tryz.prog 129 #[.string s] w fun e w' => e = .returned (.string (lowS s)) ∧ Below w.heap.size w w' := by
  unfold maxLen at hs
  obtain ⟨cap, C, hconv, hrow⟩ := bytes_laid (P := Tryz.prog) w 9 22 5 s Tryz.underlying9 Tryz.underlying22 Tryz.underlying5
  have HR : Hid (RowIs (w.alloc (.cells C 5 (C.size, C.size + 1))) w.heap.size s.data.toList) := hrow
  clear hrow
  go_enter Tryz.func129, Tryz.ntmps129
  go_wp2
  go_loopw [4] (fun i wr => ∃ k : Nat, k ≤ s.size ∧ i = .int .i64 k ∧ Below w.heap.size w wr ∧ w.heap.size < wr.heap.size ∧ Hid (RowIs wr w.heap.size (cur lowB s.data.toList k))) (fun i _ => s.size - (intOf i).toNat)
  case atStart => exact ⟨0, Nat.zero_le _, rfl, ((Below.refl _ w).alloc (Nat.le_refl _) _).drew, by simp, by rw [cur_zero]; exact HR.out⟩
  case round =>
    obtain ⟨k, hk, rfl, hb, hz, hr⟩ := hrel
    clear hconv
    by_cases hlt : k < s.size
    · have hlt' : k < s.data.toList.length := by rw [len_data]; exact hlt
      have hat := hr.out k (by rw [cur_length]; exact hlt')
      rw [cur_at _ _ _ hlt'] at hat
      have hcell : wr.cell? ⟨w.heap.size, k, none⟩ = some (.int .u8 (s[k].toNat : Int)) := hat.1
      have hfz := hat.2
      clear hat
      by_cases hc : 65 ≤ (s[k].toNat : Int) ∧ (s[k].toNat : Int) ≤ 90
      · have hlow := lowB_yes (c := s[k]) (by omega)
        have hnew := hr.out.put (k := k) (by rw [cur_length]; exact hlt') (lowB s[k])
        have e1 : (cur lowB s.data.toList k).set k (lowB s[k]) = cur lowB s.data.toList (k + 1) := cur_next lowB s.data.toList k hlt'
        rw [e1, hlow] at hnew
        have HN : Hid (RowIs (wr.setCell ⟨w.heap.size, k, none⟩ (.int .u8 ((s[k].toNat : Int) + 32))) w.heap.size (cur lowB s.data.toList (k + 1))) := hnew
        clear hnew hlow e1
        obtain ⟨hc1, hc2⟩ := hc
        go_wp2
        go_roundw
        case rel => exact ⟨k + 1, by omega, by go_num, hb.setCell (Nat.le_refl _) _, by simpa [World.setCell] using hz, HN⟩
        case measure => simp [intOf]; omega
      · have e1 : cur lowB s.data.toList (k + 1) = cur lowB s.data.toList k := cur_same lowB s.data.toList k hlt' (lowB_no (c := s[k]) (by omega))
        have HN : Hid (RowIs wr w.heap.size (cur lowB s.data.toList (k + 1))) := by rw [e1]; exact hr
        clear e1
        rcases (show (s[k].toNat : Int) < 65 ∨ (65 ≤ (s[k].toNat : Int) ∧ 90 < (s[k].toNat : Int)) from by omega) with g | ⟨g, g'⟩
        all_goals
          clear hc
          go_wp2
          go_roundw
          case rel => exact ⟨k + 1, by omega, by go_num, hb, hz, HN⟩
          case measure => simp [intOf]; omega
    · have hback := back_low s k hlt wr w.heap.size cap hr.out
      go_wp2
      go_ret
      exact ⟨rfl, hb⟩

theorem iter_put (W : World) (s : ByteArray) (p B k : Nat) (v : Value) (h : B < W.heap.size) : (W.iter s p).setCell ⟨B, k, none⟩ v = (W.setCell ⟨B, k, none⟩ v).iter s p :=
  World.setCell_alloc_past _ _ _ _ h
theorem iter_cell (W : World) (s : ByteArray) (p B k : Nat) (h : B < W.heap.size) : (W.iter s p).cell? ⟨B, k, none⟩ = W.cell? ⟨B, k, none⟩ :=
  (below_iter W s p).cell (p := ⟨B, k, none⟩) h
theorem iter_frozen (W : World) (s : ByteArray) (p B k : Nat) (h : B < W.heap.size) : (W.iter s p).frozen? ⟨B, k, none⟩ = W.frozen? ⟨B, k, none⟩ :=
  (below_iter W s p).frozen (p := ⟨B, k, none⟩) h

theorem low_world {A B : World} {n m : Int} {a : Addr} (h : n = m) (e : A.setCell a (.int .u8 m) = B) : A.setCell a (.int .u8 n) = B := by rw [h]; exact e

set_option maxHeartbeats 400000 in
theorem implLow (s : ByteArray) (w : World) (_hs : s.size ≤ maxLen) :
    Calls Tryz.prog 144 #[.string s] w fun e w' => e = .returned (.string (lowS s)) ∧ Below w.heap.size w w' := by
  obtain ⟨cap, C, hconv, hrow⟩ := bytes_laid (P := Tryz.prog) w 9 22 5 s Tryz.underlying9 Tryz.underlying22 Tryz.underlying5
  have HR : Hid (RowIs (w.alloc (.cells C 5 (C.size, C.size + 1))) w.heap.size s.data.toList) := hrow
  clear hrow
  go_enter Tryz.func144, Tryz.ntmps144
  go_wp2
  go_loopw [4, 5] (fun _ _ wr => ∃ (pos : Nat) (W : World), pos ≤ s.size ∧ wr = W.iter s pos ∧ W.heap.size = w.heap.size + 1 ∧ Below w.heap.size w W ∧ Hid (RowIs W w.heap.size (cur lowB s.data.toList pos))) (fun _ _ wr => s.size - wr.iterPos (w.heap.size + 1))
  case atStart => exact ⟨0, _, Nat.zero_le _, rfl, by simp, ((Below.refl _ w).alloc (Nat.le_refl _) _).drew, by rw [cur_zero]; exact HR.out⟩
  case round =>
    obtain ⟨pos, W, hpos, rfl, hW, hb, hr⟩ := hrel
    clear hconv
    by_cases hp : pos < s.size
    · have hlt' : pos < s.data.toList.length := by rw [len_data]; exact hp
      by_cases hasc : (s[pos]).toNat < 128
      · have hnx0 : ∀ ty, (Instr.next (.pointer (some ⟨W.heap.size, 0, none⟩)) true ty).run Tryz.prog (W.iter s pos) = _ := fun ty => run_next_ascii W s pos ty hp hasc
        rw [hW] at hnx0
        have hat := hr.out pos (by rw [cur_length]; exact hlt')
        rw [cur_at _ _ _ hlt'] at hat
        have hcell : (W.iter s (pos + 1)).cell? ⟨w.heap.size, pos, none⟩ = some (.int .u8 (s[pos].toNat : Int)) := (iter_cell W s (pos + 1) w.heap.size pos (by omega)).trans hat.1
        have hfz : (W.iter s (pos + 1)).frozen? ⟨w.heap.size, pos, none⟩ = false := (iter_frozen W s (pos + 1) w.heap.size pos (by omega)).trans hat.2
        clear hat
        by_cases hc : 65 ≤ (s[pos].toNat : Int) ∧ (s[pos].toNat : Int) ≤ 90
        · have hlow := lowB_yes (c := s[pos]) (by omega)
          have hnew := hr.out.put (k := pos) (by rw [cur_length]; exact hlt') (lowB s[pos])
          have e1 : (cur lowB s.data.toList pos).set pos (lowB s[pos]) = cur lowB s.data.toList (pos + 1) := cur_next lowB s.data.toList pos hlt'
          rw [e1, hlow] at hnew
          have HN : Hid (RowIs (W.setCell ⟨w.heap.size, pos, none⟩ (.int .u8 ((s[pos].toNat : Int) + 32))) w.heap.size (cur lowB s.data.toList (pos + 1))) := hnew
          have HS : Hid ((W.iter s (pos + 1)).setCell ⟨w.heap.size, pos, none⟩ (.int .u8 ((s[pos].toNat : Int) + 32)) = (W.setCell ⟨w.heap.size, pos, none⟩ (.int .u8 ((s[pos].toNat : Int) + 32))).iter s (pos + 1)) := iter_put W s (pos + 1) w.heap.size pos _ (by omega)
          clear hnew hlow e1
          obtain ⟨hc1, hc2⟩ := hc
          go_wp2
          go_roundw
          case rel => exact ⟨pos + 1, _, by omega, low_world (by omega) HS.out, by simpa [World.setCell] using hW, hb.setCell (Nat.le_refl _) _, HN⟩
          case measure => rw [iterPos_put _ _ _ _ (by simp), ← hW]; simp; omega
        · have e1 : cur lowB s.data.toList (pos + 1) = cur lowB s.data.toList pos := cur_same lowB s.data.toList pos hlt' (lowB_no (c := s[pos]) (by omega))
          have HN : Hid (RowIs W w.heap.size (cur lowB s.data.toList (pos + 1))) := by rw [e1]; exact hr
          clear e1
          rcases (show (s[pos].toNat : Int) < 65 ∨ (65 ≤ (s[pos].toNat : Int) ∧ 90 < (s[pos].toNat : Int)) from by omega) with g | ⟨g, g'⟩
          all_goals
            clear hc
            go_wp2
            go_roundw
            case rel => exact ⟨pos + 1, W, by omega, rfl, hW, hb, HN⟩
            case measure => rw [← hW]; simp; omega
      · have hnx0 : ∀ ty, (Instr.next (.pointer (some ⟨W.heap.size, 0, none⟩)) true ty).run Tryz.prog (W.iter s pos) = _ := fun ty => run_next_any W s pos ty hp
        rw [hW] at hnx0
        have hd := (decode_high s pos hp (by omega)).1
        have hw1 := (decode_high s pos hp (by omega)).2
        have hw2 := decode_within s pos hp (by omega)
        have e1 : cur lowB s.data.toList (pos + (Utf8.decode s pos).2) = cur lowB s.data.toList pos := cur_skip lowB s.data.toList pos _ (fun j hj => by
          obtain ⟨q1, q2⟩ := decode_skip s pos hp (by omega) j hj
          have q3 : 128 ≤ (s.data.toList[pos + j]'(by rw [len_data]; exact q1)).toNat := q2
          exact ⟨by rw [len_data]; exact q1, lowB_no (by omega)⟩)
        have HN : Hid (RowIs W w.heap.size (cur lowB s.data.toList (pos + (Utf8.decode s pos).2))) := by rw [e1]; exact hr
        clear e1
        generalize (Utf8.decode s pos).1 = r at hnx0 hd
        generalize (Utf8.decode s pos).2 = p2 at hnx0 HN hw1 hw2
        have hg : 90 < (r : Int) := by omega
        have hg' : 65 ≤ (r : Int) := by omega
        go_wp2
        go_roundw
        case rel => exact ⟨pos + p2, W, hw2, rfl, hW, hb, HN⟩
        case measure => rw [← hW]; simp; omega
    · have hnx0 : ∀ ty, (Instr.next (.pointer (some ⟨W.heap.size, 0, none⟩)) true ty).run Tryz.prog (W.iter s pos) = _ := fun ty => run_next_end W s pos ty hp
      rw [hW] at hnx0
      have hback := back_low s pos hp (W.iter s pos) w.heap.size cap (fun j hj => ⟨(iter_cell W s pos w.heap.size j (by omega)).trans (hr.out j hj).1, (iter_frozen W s pos w.heap.size j (by omega)).trans (hr.out j hj).2⟩)
      go_wp2
      go_ret
      exact ⟨rfl, hb.trans ((below_iter W s pos).mono (by omega))⟩
end Go.Proofs.YtemmgfnepdgpbaaGreatDoor
namespace Go.Proofs.YtemmgfnepdgpbaaGreatDoor
open Go.RowKit

set_option maxHeartbeats 1000000 in
set_option maxRecDepth 100000 in
theorem isTok (r : Int) (w : World) :
    Calls Tryz.prog 141 #[.int .i32 r] w fun e w' => e = .returned (.bool (tokN r)) ∧ w' = w := by
  go_enter Tryz.func141, Tryz.ntmps141
  go_wp2
  all_goals go_ret
  all_goals refine ⟨ret_bool ?_, rfl⟩
  all_goals try simp only [beq_iff_eq, beq_eq_false_iff_ne, ne_eq] at *
  all_goals first | (refine tokN_yes (r := r) ?_; omega) | (refine tokN_no (r := r) ?_; omega)
end Go.Proofs.YtemmgfnepdgpbaaGreatDoor

/-
  Rows of any elements: appended, and where the new row lies.
  Rows of numbers of a call's own: read, and one number more.
  The contracts of Digits and HexDigits, the specification's and the program's, and of what they call: both read the same number.
-/
import Derived.Test.YtemmgfnepdgpbaaGreatDoorJ12
import Derived.Maps.AppendAt
import Derived.Test.YtemmgfnepdgpbaaGreatDoorRows
import Derived.Test.YtemmgfnepdgpbaaGreatDoorJ08
import Derived.WalkKit
import Derived.WalkSpells
namespace Go.Proofs.YtemmgfnepdgpbaaGreatDoor
open Go.RowKit
set_option linter.unusedVariables false

theorem wpList_rowE_at {α : Type} {E : Enc α} {P : Program} {ops : Array Oper} {rest : List Oper} {o : Oper} {a : Act} {Q : Exit → Act → World → Prop} (w : World) (hgd : o.guard = Option.none) (s x : Operand) (ts te : TypeId) (z : Value) (bytes : Nat)
    (hts : P.underlying ts = some (.slice te)) (hinfo : (P.info? te).map (fun i => (i.zero, i.size, i.bytes)) = some (some z, E.k, bytes)) (hz : z.cells.size = E.k)
    (ho : o.op = .call { callee := .builtin .append, args := #[s, x], argTypes := #[ts, ts] }) (B : Nat) (v : Value) (l : List α) (hs : a.eval s = v) (hown : OwnsE E te w B v l)
    (ad : Addr) (c : Nat) (m : List α) (hx : a.eval x = .slice (some ad) m.length c) (hcell : ∀ j u, (cellsE E m)[j]? = some u → w.cell? (ad.add j) = some u)
    (h63 : l.length + m.length ≤ maxLen) (hbytes : (l.length + m.length) * bytes ≤ 140737488355328) (hB : B ≤ w.heap.size)
    (h : ∀ v' w', OwnsE E te w' B v' (l ++ m) → w.grownBy w' v.ownBlock → (v' = .slice Option.none 0 0 ↔ v = .slice Option.none 0 0 ∧ m.length = 0) → (v'.ownBlock = v.ownBlock ∨ v'.ownBlock = some w.heap.size) → wpList P ops Q rest (a.put o.dst v') w') :
    wpList P ops Q (o :: rest) a w := by
  obtain ⟨i0, hi, hz0, hz1, hz2⟩ := info_parts hinfo
  refine wpList_append_own_at _ hgd s x ts ho B te i0 z E.k bytes hts hi hz0 hz1 hz2 hz E.pos v l.length (cellsE E l) hs hown ad m.length c (cellsE E m) hx (cellsE_length E m) hcell (cellsE_one E m) h63 hbytes hB ?_
  intro v' w' h1 h2 h3 h4
  refine h v' w' ?_ h2 h3 h4
  unfold OwnsE
  rw [cellsE_append, List.length_append]
  exact h1
/-- Texts, numbers, flags. -/
def txtE : Enc ByteArray where
  k := 1
  pos := by decide
  c := fun x => [.string x]
  len := fun _ => rfl
  one := fun x u hu => by simp at hu; subst hu; rfl
end Go.Proofs.YtemmgfnepdgpbaaGreatDoor
namespace Go.Proofs.YtemmgfnepdgpbaaGreatDoor
open Go.RowKit
set_option linter.unusedVariables false

def nuE : Enc Int where
  k := 1
  pos := by decide
  c := fun x => [.int .i64 x]
  len := fun _ => rfl
  one := fun x u hu => by simp at hu; subst hu; rfl
theorem Tryz.infoNu2 : (Tryz.prog.info? 2).map (fun i => (i.zero, i.size, i.bytes)) = some (some (.int .i64 0), 1, 8) := by kernel_rfl
abbrev OwnsNu := OwnsE nuE 2
theorem ownsNu_at {w : World} {B g n cap : Nat} {l : List Int} (h : OwnsNu w B (.slice (some ⟨g, 0, Option.none⟩) n cap) l) (j : Nat) (hj : j < l.length) : w.cell? ⟨g, j, Option.none⟩ = some (.int .i64 l[j]) := by
  have := h.at (i := 0) hj (u := .int .i64 l[j]) rfl
  rw [show j * nuE.k + 0 = j from by show j * 1 + 0 = j; omega] at this
  exact this
/-- One number appended. -/
theorem wpList_pushNu {ops : Array Oper} {rest : List Oper} {o : Oper} {a : Act} {Q : Exit → Act → World → Prop} (w : World) (hgd : o.guard = none) (s x : Operand)
    (ho : o.op = .call { callee := .builtin .append, args := #[s, x], argTypes := #[64, 64] }) (B : Nat) (v : Value) (l : List Int) (c : Int) (hs : a.eval s = v) (hown : OwnsNu w B v l)
    (hx : a.eval x = .slice (some ⟨w.heap.size, 0, none⟩) 1 1) (hlen : l.length ≤ 1100000) (hB : B ≤ w.heap.size)
    (h : ∀ v' w', OwnsNu w' B v' (l ++ [c]) → w.grownBy w' v.ownBlock → wpList Tryz.prog ops Q rest (a.put o.dst v') w') :
    wpList Tryz.prog ops Q (o :: rest) a (w.alloc (.cells #[.int .i64 c] 2)) := by
  refine wpList_rowE (E := nuE) _ hgd s x 64 2 (.int .i64 0) 8 Tryz.underlying64 Tryz.infoNu2 rfl ho B v l hs (OwnsE.alloc hown _) ⟨w.heap.size, 0, none⟩ 1 [c] hx (fresh_cell w c #[.int .i64 c] 2 rfl) (by unfold maxLen; simp; omega) (by simp; omega) (by simp; omega) ?_
  intro v' w' h1 h2 h3
  refine h v' w' h1 ⟨h2.os, h2.tape, h2.output, ?_, ?_⟩
  · have := h2.size
    simp at this
    omega
  · intro k hk hne
    rw [h2.block k (by simp; omega) hne]
    exact Below.heap_alloc _ _ _ hk
end Go.Proofs.YtemmgfnepdgpbaaGreatDoor
namespace Go.Proofs.YtemmgfnepdgpbaaGreatDoor
open Go.RowKit

theorem ret_int {k : IntKind} {a b : Int} (h : a = b) : Ending.returned (.int k a) = .returned (.int k b) := by rw [h]

theorem implDigV_d (r : Int) (w : World) (h : 48 ≤ r ∧ r ≤ 57) :
    Calls Tryz.prog 156 #[.int .i32 r] w fun e w' => e = .returned (.int .i64 (digV r)) ∧ w' = w := by
  have hd := (digV_d h).symm
  have HD : Hid (_ = digV r) := hd
  clear hd
  obtain ⟨h1, h2⟩ := h
  go_enter Tryz.func156, Tryz.ntmps156
  go_wp2
  go_ret
  exact ⟨ret_int HD.out, rfl⟩
theorem implDigV_a (r : Int) (w : World) (h : 97 ≤ r ∧ r ≤ 102) :
    Calls Tryz.prog 156 #[.int .i32 r] w fun e w' => e = .returned (.int .i64 (digV r)) ∧ w' = w := by
  have hd := (digV_a h).symm
  have HD : Hid (_ = digV r) := hd
  clear hd
  obtain ⟨h1, h2⟩ := h
  go_enter Tryz.func156, Tryz.ntmps156
  go_wp2
  go_ret
  exact ⟨ret_int HD.out, rfl⟩
theorem implDigV_A (r : Int) (w : World) (h : 65 ≤ r ∧ r ≤ 70) :
    Calls Tryz.prog 156 #[.int .i32 r] w fun e w' => e = .returned (.int .i64 (digV r)) ∧ w' = w := by
  have hd := (digV_A h).symm
  have HD : Hid (_ = digV r) := hd
  clear hd
  obtain ⟨h1, h2⟩ := h
  go_enter Tryz.func156, Tryz.ntmps156
  go_wp2
  go_ret
  exact ⟨ret_int HD.out, rfl⟩
theorem implDigV_no (r : Int) (w : World) (h : ¬ (48 ≤ r ∧ r ≤ 57)) (h' : ¬ (97 ≤ r ∧ r ≤ 102)) (h'' : ¬ (65 ≤ r ∧ r ≤ 70)) :
    Calls Tryz.prog 156 #[.int .i32 r] w fun e w' => e = .returned (.int .i64 (digV r)) ∧ w' = w := by
  have hd := digV_no h h' h''
  have HD : Hid (digV r = -1) := hd
  clear hd
  rcases (show r < 48 ∨ (57 < r ∧ r < 65) ∨ (70 < r ∧ r < 97) ∨ 102 < r from by omega) with g | ⟨g, g'⟩ | ⟨g, g'⟩ | g
  all_goals
    clear h h' h''
    go_enter Tryz.func156, Tryz.ntmps156
    go_wp2
    go_ret
    exact ⟨ret_int HD.out.symm, rfl⟩
theorem implDigV (r : Int) (w : World) :
    Calls Tryz.prog 156 #[.int .i32 r] w fun e w' => e = .returned (.int .i64 (digV r)) ∧ w' = w := by
  by_cases h : 48 ≤ r ∧ r ≤ 57
  · exact implDigV_d r w h
  by_cases h' : 97 ≤ r ∧ r ≤ 102
  · exact implDigV_a r w h'
  by_cases h'' : 65 ≤ r ∧ r ≤ 70
  · exact implDigV_A r w h''
  · exact implDigV_no r w h h' h''

theorem specDig_out (s : ByteArray) (w : World) (hs : s.size ≤ maxLen) (h : s.size < 1 ∨ 15 < s.size) :
    Calls Tryz.prog 79 #[.string s] w fun e w' => e = .returned (numE 10 15 s) ∧ Below w.heap.size w w' := by
  unfold maxLen at hs
  have ht := numE_no (numOk_out (b := 10) h)
  have HT : Hid (_ = Ending.returned (numE 10 15 s)) := ht
  clear ht
  rcases h with h | h
  · go_enter Tryz.func79, Tryz.ntmps79
    go_wp2
    go_ret2
    exact ⟨HT.out, Below.refl _ _⟩
  · have h' : ¬ s.size < 1 := by omega
    go_enter Tryz.func79, Tryz.ntmps79
    go_wp2
    go_ret2
    exact ⟨HT.out, Below.refl _ _⟩

set_option maxHeartbeats 400000 in
theorem specDig_in (s : ByteArray) (w : World) (h1 : 1 ≤ s.size) (h2 : s.size ≤ 15) :
    Calls Tryz.prog 79 #[.string s] w fun e w' => e = .returned (numE 10 15 s) ∧ Below w.heap.size w w' := by
  have d1 : decide ((s.size : Int) < 1) = false := by simp; omega
  have d2 : decide (15 < (s.size : Int)) = false := by simp; omega
  go_enter Tryz.func79, Tryz.ntmps79
  go_wp2
  go_loop [4, 5] (fun v i => ∃ (k : Nat) (n : Int), k ≤ s.size ∧ i = .int .i64 k ∧ v = .int .i64 n ∧ 0 ≤ n ∧ n ≤ 1000000000000000 ∧ Hid (allB (digN 10) (s.data.toList.take k) = true) ∧ Hid (n = numL 10 (s.data.toList.take k))) (fun _ i => s.size - (intOf i).toNat)
  case atStart => exact ⟨0, 0, Nat.zero_le _, rfl, rfl, by decide, by decide, allB_nil _ _, rfl⟩
  case round =>
    obtain ⟨k, n, hk, rfl, rfl, hn0, hn1, ha, hn⟩ := hrel
    by_cases hlt : k < s.size
    · by_cases hg : 48 ≤ (s[k].toNat : Int) ∧ (s[k].toNat : Int) ≤ 57
      · have e1 := digV_d hg
        have e2 := allB_step hlt ha.out (digN_yes (b := 10) (digV_ten.2 hg).1 (digV_ten.2 hg).2)
        have e3 := numL_step hlt hn.out
        rw [e1] at e3
        have e4 := num_bound10 (by omega) (by omega) e2
        rw [← e3] at e4
        have H2 : Hid (allB (digN 10) (s.data.toList.take (k + 1)) = true) := e2
        have H3 : Hid (n * 10 + ((s[k].toNat : Int) - 48) = numL 10 (s.data.toList.take (k + 1))) := e3
        have H4 : Hid (0 ≤ n * 10 + ((s[k].toNat : Int) - 48) ∧ n * 10 + ((s[k].toNat : Int) - 48) ≤ 1000000000000000) := e4
        clear e1 e2 e3 e4
        obtain ⟨hg1, hg2⟩ := hg
        go_wp2
        go_round
        case rel => exact ⟨k + 1, _, by omega, by go_num, rfl, H4.out.1, H4.out.2, H2, H3⟩
        case measure => simp [intOf]; omega
      · have hf := numE_no (numOk_in (b := 10) h1 h2 (allB_not hlt (digN_no (fun x => hg (digV_ten.1 x)))))
        have HF : Hid (_ = Ending.returned (numE 10 15 s)) := hf
        clear hf
        rcases (show (s[k].toNat : Int) < 48 ∨ 57 < (s[k].toNat : Int) from by omega) with g | g
        all_goals
          go_wp2
          go_ret2
          exact ⟨HF.out, Below.refl _ _⟩
    · have hf := numE_yes (numOk_in (b := 10) h1 h2 (allB_end hlt ha.out)) (hn.out.trans (by rw [take_all s k hlt]))
      have HF : Hid (_ = Ending.returned (numE 10 15 s)) := hf
      clear hf
      go_wp2
      go_ret2
      exact ⟨HF.out, Below.refl _ _⟩

theorem specDig (s : ByteArray) (w : World) (hs : s.size ≤ maxLen) :
    Calls Tryz.prog 79 #[.string s] w fun e w' => e = .returned (numE 10 15 s) ∧ Below w.heap.size w w' := by
  by_cases h : s.size < 1 ∨ 15 < s.size
  · exact specDig_out s w hs h
  · exact specDig_in s w (by omega) (by omega)

theorem implNum10_out (s : ByteArray) (w : World) (hs : s.size ≤ maxLen) (h : s.size < 1 ∨ 15 < s.size) :
    Calls Tryz.prog 133 #[.string s, .int .i64 10, .int .i64 15] w fun e w' => e = .returned (numE 10 15 s) ∧ Below w.heap.size w w' := by
  unfold maxLen at hs
  have ht := numE_no (numOk_out (b := 10) h)
  have HT : Hid (_ = Ending.returned (numE 10 15 s)) := ht
  clear ht
  rcases h with h | h
  · go_enter Tryz.func133, Tryz.ntmps133
    go_wp2
    go_ret2
    exact ⟨HT.out, Below.refl _ _⟩
  · have h' : ¬ s.size < 1 := by omega
    go_enter Tryz.func133, Tryz.ntmps133
    go_wp2
    go_ret2
    exact ⟨HT.out, Below.refl _ _⟩

set_option maxHeartbeats 400000 in
theorem implNum10_in (s : ByteArray) (w : World) (h1 : 1 ≤ s.size) (h2 : s.size ≤ 15) :
    Calls Tryz.prog 133 #[.string s, .int .i64 10, .int .i64 15] w fun e w' => e = .returned (numE 10 15 s) ∧ Below w.heap.size w w' := by
  have d1 : decide ((s.size : Int) < 1) = false := by simp; omega
  have d2 : decide (15 < (s.size : Int)) = false := by simp; omega
  go_enter Tryz.func133, Tryz.ntmps133
  go_wp2
  go_loopw [8] (fun v wr => ∃ (pos : Nat) (n : Int), pos ≤ s.size ∧ wr = w.iter s pos ∧ v = .int .i64 n ∧ 0 ≤ n ∧ n ≤ 1000000000000000 ∧ Hid (allB (digN 10) (s.data.toList.take pos) = true) ∧ Hid (n = numL 10 (s.data.toList.take pos))) (fun _ wr => s.size - wr.iterPos w.heap.size)
  case atStart => exact ⟨0, 0, Nat.zero_le _, rfl, rfl, by decide, by decide, allB_nil _ _, rfl⟩
  case round =>
    obtain ⟨pos, n, hpos, rfl, rfl, hn0, hn1, ha, hn⟩ := hrel
    by_cases hp : pos < s.size
    · by_cases hasc : (s[pos]).toNat < 128
      · have hnx : ∀ ty, (Instr.next (.pointer (some ⟨w.heap.size, 0, none⟩)) true ty).run Tryz.prog (w.iter s pos) = _ := fun ty => run_next_ascii w s pos ty hp hasc
        have hbd := digV_bd (s[pos].toNat : Int)
        by_cases hg : 0 ≤ digV (s[pos].toNat : Int) ∧ digV (s[pos].toNat : Int) < 10
        · have e2 := allB_step hp ha.out (digN_yes (b := 10) hg.1 hg.2)
          have e3 := numL_step hp hn.out
          have e4 := num_bound10 (by omega) (by omega) e2
          rw [← e3] at e4
          have H2 : Hid (allB (digN 10) (s.data.toList.take (pos + 1)) = true) := e2
          have H3 : Hid (n * 10 + digV (s[pos].toNat : Int) = numL 10 (s.data.toList.take (pos + 1))) := e3
          have H4 : Hid (0 ≤ n * 10 + digV (s[pos].toNat : Int) ∧ n * 10 + digV (s[pos].toNat : Int) ≤ 1000000000000000) := e4
          clear e2 e3 e4
          obtain ⟨hb1, hb2⟩ := hbd
          obtain ⟨hg1, hg2⟩ := hg
          go_wp2_with (go_at_call 156; refine (implDigV _ _).mono ?_; rintro e w' ⟨rfl, rfl⟩)
          go_roundw
          case rel => exact ⟨pos + 1, _, by omega, rfl, rfl, H4.out.1, H4.out.2, H2, H3⟩
          case measure => simp; omega
        · have hf := numE_no (numOk_in (b := 10) h1 h2 (allB_not hp (digN_no hg)))
          have HF : Hid (_ = Ending.returned (numE 10 15 s)) := hf
          clear hf
          rcases (show digV (s[pos].toNat : Int) < 0 ∨ (0 ≤ digV (s[pos].toNat : Int) ∧ 10 ≤ digV (s[pos].toNat : Int)) from by omega) with g | ⟨g, g'⟩
          all_goals
            clear hg
            go_wp2_with (go_at_call 156; refine (implDigV _ _).mono ?_; rintro e w' ⟨rfl, rfl⟩)
            go_ret2
            exact ⟨HF.out, below_iter _ _ _⟩
      · have hnx : ∀ ty, (Instr.next (.pointer (some ⟨w.heap.size, 0, none⟩)) true ty).run Tryz.prog (w.iter s pos) = _ := fun ty => run_next_any w s pos ty hp
        have hd := (decode_high s pos hp (by omega)).1
        have hz : digV (s[pos].toNat : Int) = -1 := digV_high (by omega)
        have hf := numE_no (numOk_in (b := 10) h1 h2 (allB_not hp (digN_no (by omega))))
        have HF : Hid (_ = Ending.returned (numE 10 15 s)) := hf
        clear hf hz
        generalize (Utf8.decode s pos).1 = r at hnx hd
        generalize (Utf8.decode s pos).2 = p2 at hnx
        have ht : digV (r : Int) = -1 := digV_high (by omega)
        go_wp2_with (go_at_call 156; refine (implDigV _ _).mono ?_; rintro e w' ⟨rfl, rfl⟩)
        go_ret2
        exact ⟨HF.out, below_iter _ _ _⟩
    · have hnx : ∀ ty, (Instr.next (.pointer (some ⟨w.heap.size, 0, none⟩)) true ty).run Tryz.prog (w.iter s pos) = _ := fun ty => run_next_end w s pos ty hp
      have hf := numE_yes (numOk_in (b := 10) h1 h2 (allB_end hp ha.out)) (hn.out.trans (by rw [take_all s pos hp]))
      have HF : Hid (_ = Ending.returned (numE 10 15 s)) := hf
      clear hf
      go_wp2
      go_ret2
      exact ⟨HF.out, below_iter _ _ _⟩

theorem implNum10 (s : ByteArray) (w : World) (hs : s.size ≤ maxLen) :
    Calls Tryz.prog 133 #[.string s, .int .i64 10, .int .i64 15] w fun e w' => e = .returned (numE 10 15 s) ∧ Below w.heap.size w w' := by
  by_cases h : s.size < 1 ∨ 15 < s.size
  · exact implNum10_out s w hs h
  · exact implNum10_in s w (by omega) (by omega)

theorem implDig (s : ByteArray) (w : World) (hs : s.size ≤ maxLen) :
    Calls Tryz.prog 101 #[.string s] w fun e w' => e = .returned (numE 10 15 s) ∧ Below w.heap.size w w' := by
  unfold numE
  go_enter Tryz.func101, Tryz.ntmps101
  go_wp2_with (go_at_call 133; refine (implNum10 _ _ hs).mono ?_; unfold numE; rintro e w' ⟨rfl, hb⟩)
  go_ret2
  exact ⟨rfl, hb⟩
end Go.Proofs.YtemmgfnepdgpbaaGreatDoor

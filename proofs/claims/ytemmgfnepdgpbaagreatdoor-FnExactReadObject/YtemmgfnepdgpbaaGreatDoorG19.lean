/-
  The bytes of a text appended to a row of bytes that a call owns; what stays where such a row grows.
  The contracts of Get, the specification's and the program's.
  The contract of the program's Get.
-/
import Derived.Test.YtemmgfnepdgpbaaGreatDoorG04
import Derived.WalkKit
import Derived.WalkSpells
import Derived.Lib.AppendStr
import Derived.Test.YtemmgfnepdgpbaaGreatDoorG18
namespace Go.Proofs.YtemmgfnepdgpbaaGreatDoor
open Go.RowKit

theorem wpList_pushStr {ops : Array Oper} {rest : List Oper} {o : Oper} {a : Act} {Q : Exit → Act → World → Prop} (w : World) (hgd : o.guard = none) (s x : Operand)
    (ho : o.op = .call { callee := .builtin .append, args := #[s, x], argTypes := #[22, 9] }) (B : Nat) (v : Value) (l : List UInt8) (t : ByteArray) (hs : a.eval s = v) (hown : OwnsB w B v l)
    (hx : a.eval x = .string t) (hlen : l.length + t.size ≤ 1000000) (hB : B ≤ w.heap.size)
    (h : ∀ v' w', OwnsB w' B v' (l ++ t.data.toList) → w.grownBy w' v.ownBlock → wpList Tryz.prog ops Q rest (a.put o.dst v') w') :
    wpList Tryz.prog ops Q (o :: rest) a w := by
  obtain ⟨i0, hi, hz0, hz1, hz2⟩ := info_parts Tryz.info5
  refine Lib.wpList_append_own_string _ hgd s x 22 9 ho B 5 i0 Tryz.underlying22 Tryz.underlying9 hi hz0 hz1 hz2 v l.length (bytesV l) hs hown t hx (by unfold maxLen; omega) (by omega) hB ?_
  intro v' w' h1 h2 _
  refine h v' w' ?_ h2
  unfold OwnsB
  have e : bytesV (l ++ t.data.toList) = bytesV l ++ Lib.strCells t := by
    unfold bytesV Lib.strCells
    rw [List.map_append]
  rw [e, List.length_append, show t.data.toList.length = t.size from by simp]
  exact h1
/-- The same, as one step of a region that draws its order. -/
theorem step_ownStr {ops : Array Oper} {o : Oper} {a : Act} {w : World} {K : Act → World → Prop} {Q : Exit → Act → World → Prop} {E : Prop} (hg : o.guard = none) (s x : Operand)
    (ho : o.op = .call { callee := .builtin .append, args := #[s, x], argTypes := #[22, 9] }) (B : Nat) (v : Value) (l : List UInt8) (t : ByteArray) (hs : a.eval s = v) (hown : OwnsB w B v l)
    (hx : a.eval x = .string t) (hlen : l.length + t.size ≤ 1000000) (hB : B ≤ w.heap.size)
    (h : ∀ v' w', OwnsB w' B v' (l ++ t.data.toList) → w.grownBy w' v.ownBlock → K (a.put o.dst v') w') :
    if Region.wanted o (yielded ops a.tmps) = true then Oper.wp Tryz.prog o a w K Q else E := by
  have hw : Region.wanted o (yielded ops a.tmps) = true := by simp [Region.wanted, hg]
  rw [if_pos hw]
  obtain ⟨i0, hi, hz0, hz1, hz2⟩ := info_parts Tryz.info5
  obtain ⟨v', w', hr, h2, h3, h4⟩ := Lib.run_append_own_string (P := Tryz.prog) w B 22 9 o.type 5 i0 Tryz.underlying22 Tryz.underlying9 hi hz0 hz1 hz2 v l.length (bytesV l) hown t (by unfold maxLen; omega) (by omega) hB
  unfold Oper.wp execOp
  simp only [ho, resolve, invoke, builtin, Sem.run_bind, Sem.run_pure, Result.andThen_ok, List.map_toArray, List.map_cons, List.map_nil, hs, hx, hr]
  refine h v' w' ?_ h3
  unfold OwnsB
  have e : bytesV (l ++ t.data.toList) = bytesV l ++ Lib.strCells t := by
    unfold bytesV Lib.strCells
    rw [List.map_append]
  rw [e, List.length_append, show t.data.toList.length = t.size from by simp]
  exact h2
theorem grown_cell {w w' : World} {r : Option Nat} {b j : Nat} {v : Value} (h : w.grownBy w' r) (hc : w.cell? ⟨b, j, none⟩ = some v) (hb : b < w.heap.size) (hne : ∀ k, r = some k → k ≠ b) : w'.cell? ⟨b, j, none⟩ = some v := by
  rw [← hc]
  simp only [World.cell?]
  rw [h.block b hb (fun e => hne b e.symm rfl)]
theorem OwnsB.under {w : World} {B : Nat} {v : Value} {l : List UInt8} (h : OwnsB w B v l) : ∀ k, v.ownBlock = some k → k < w.heap.size := fun k hk => (World.ownsRow.lt h k hk).2
end Go.Proofs.YtemmgfnepdgpbaaGreatDoor
namespace Go.Proofs.YtemmgfnepdgpbaaGreatDoor
open Go.RowKit Go.Sort

/-- What Get answers. -/
def getE (p : ByteArray × Bool) : Value := .tuple #[.string p.1, .bool p.2]
theorem ret_get {p : ByteArray × Bool} {x : ByteArray} {b : Bool} (h : (x, b) = p) : Ending.returned (.tuple #[.string x, .bool b]) = .returned (getE p) := by subst h; rfl
theorem same_no {a b : ByteArray} (h : ¬ a = b) : (a.toList == b.toList) = false := by rw [str_eq]; simp [h]
theorem same_yes {a b : ByteArray} (h : a = b) : (a.toList == b.toList) = true := by rw [str_eq]; simp [h]

end Go.Proofs.YtemmgfnepdgpbaaGreatDoor
namespace Go.Proofs.YtemmgfnepdgpbaaGreatDoor
open Go.RowKit Go.Sort

theorem data_app (a b : ByteArray) : (a ++ b).data.toList = a.data.toList ++ b.data.toList := by rw [ByteArray.data_append, Array.toList_append]
theorem text_of (x : ByteArray) : (⟨x.data.toList.toArray⟩ : ByteArray) = x := by cases x; simp
theorem len_of (x : ByteArray) : x.data.toList.length = x.size := by simp

set_option maxHeartbeats 1000000 in
theorem implGet (v : Value) (l : List Fl) (n : ByteArray) (w : World) (h : Fls w v l) (hz : szL l ≤ 1048576) (hn : n.size ≤ 1048576) :
    Calls Tryz.prog 143 #[v, .string n] w fun e w' => e = .returned (getE (getA l n)) ∧ Below w.heap.size w w' := by
  have hh := h
  obtain ⟨a, cap, rfl, h1, h2, h3⟩ := hh
  unfold maxLen at h2
  have hnm : n.size ≤ maxLen := by unfold maxLen; omega
  cases hok : fldsOk l with
  | false =>
    have HN : Hid ((⟨#[]⟩, false) = getA l n) := getA_no n hok
    go_enter Tryz.func143, Tryz.ntmps143
    go_wp2_with (go_at_call 59; refine (implOk _ l _ h hz).mono ?_; rw [hok]; rintro e w1 ⟨rfl, hb1⟩)
    go_ret2
    exact ⟨ret_get HN.out, hb1⟩
  | true =>
    obtain ⟨hl, hfs⟩ := fldsOk_parts hok
    have HG : Hid (getF l n = getA l n) := getA_yes n hok
    go_enter Tryz.func143, Tryz.ntmps143
    go_wp2_with (first | (go_at_call 59; refine (implOk _ l _ h hz).mono ?_; rw [hok]; rintro e w1 ⟨rfl, hb1⟩) | (go_at_call 144; refine (implLow _ _ hnm).mono ?_; rintro e w2 ⟨rfl, hb2⟩))
    have hb02 := hb1.trans (hb2.mono hb1.size)
    clear hb1 hb2
    go_loopw [7, 8, 18] (fun s b i wr => ∃ (k : Nat) (x : ByteArray) (fd : Bool), k ≤ l.length ∧ i = .int .i64 k ∧ b = .bool fd ∧ x.size ≤ 402 * k ∧ OwnsB wr w.heap.size s x.data.toList ∧ Hid (getF (l.take k) n = (x, fd)) ∧ Below w.heap.size w wr) (fun _ _ i _ => l.length - (intOf i).toNat)
    case atStart => exact ⟨0, ⟨#[]⟩, false, Nat.zero_le _, rfl, rfl, Nat.le_refl _, OwnsB.nil _ _, rfl, hb02⟩
    case round =>
      clear hb02
      obtain ⟨k, x, fd, hk, rfl, rfl, hxs, hown, hget, hb⟩ := hrel
      have hxl := len_of x
      by_cases hlt : k < l.length
      · obtain ⟨g, o, rfl, hg, hc⟩ := h3 (by omega)
        have c1 := (hb.cell (p := ⟨g, o + k * 2, none⟩) hg).trans (hc k hlt).1
        have c2 := (hb.cell (p := ⟨g, o + k * 2 + 1, none⟩) hg).trans (hc k hlt).2
        have hsz := fldOk_size (hfs l[k] (List.getElem_mem hlt))
        have hnx := getF_next n hlt
        rw [hget.out] at hnx
        generalize l[k] = f at c1 c2 hsz hnx
        have z1 : f.1.size ≤ maxLen := by unfold maxLen; omega
        have d1 := box1 wr f 83
        have bl := box_lt wr (.cells #[.string f.1, .string f.2] 83)
        have hba := hb.alloc hb.size (.cells #[.string f.1, .string f.2] 83)
        have hoa := hown.alloc (.cells #[.string f.1, .string f.2] 83)
        have hun := OwnsB.under hown
        clear hc h3 hfs h
        by_cases he : lowS f.1 = lowS n
        · have hq := same_yes he
          cases fd with
          | false =>
            rw [gStep_first he] at hnx
            have HN : Hid (getF (l.take (k + 1)) n = (x ++ f.2, true)) := hnx
            clear hnx he
            go_wp2_with (first
              | (go_at_call 144; refine (implLow _ _ z1).mono ?_; rintro e w1 ⟨rfl, hb1⟩; have e1 := (hb1.cell (p := ⟨wr.heap.size, 1, none⟩) bl).trans d1; have ho1 := hoa.kept hb1; have hb01 := hba.trans (hb1.mono hba.size))
              | (at_builtin; refine wpList_pushStr _ rfl _ _ rfl w.heap.size _ _ _ rfl ho1 rfl (by omega) hb01.size ?_; intro v2 w2 ho2 hg2))
            have hb02 := hb01.grown hg2 hb01.size (OwnsB.from ho1)
            rw [← data_app] at ho2
            clear hown hoa ho1 hb hb1 hba hb01 hg2 c1 c2 d1 e1
            go_roundw
            case rel => exact ⟨k + 1, _, true, by omega, by go_num, rfl, by rw [ByteArray.size_append]; omega, ho2, HN, hb02⟩
            case measure => simp [intOf]; omega
          | true =>
            rw [gStep_more he] at hnx
            have HN : Hid (getF (l.take (k + 1)) n = (x ++ ⟨#[44, 32]⟩ ++ f.2, true)) := hnx
            have zz : (x ++ (⟨#[44, 32]⟩ : ByteArray)).size = x.size + 2 := by rw [ByteArray.size_append]; rfl
            clear hnx he
            go_wp2_with (first
              | (go_at_call 144; refine (implLow _ _ z1).mono ?_; rintro e w1 ⟨rfl, hb1⟩; have e1 := (hb1.cell (p := ⟨wr.heap.size, 1, none⟩) bl).trans d1; have ho1 := hoa.kept hb1; have hb01 := hba.trans (hb1.mono hba.size))
              | (at_builtin; refine wpList_pushStr _ rfl _ _ rfl w.heap.size _ _ _ rfl ho1 rfl (by show _ + 2 ≤ _; omega) hb01.size ?_; intro v2 w2 ho2 hg2; have e2 := grown_cell hg2 e1 (Nat.lt_of_lt_of_le bl hb1.size) (fun j hj => Nat.ne_of_lt (hun j hj)); have hb02 := hb01.grown hg2 hb01.size (OwnsB.from ho1); rw [← data_app] at ho2)
              | (at_builtin; refine wpList_pushStr _ rfl _ _ rfl w.heap.size _ _ _ rfl ho2 rfl (by rw [len_of, zz]; omega) hb02.size ?_; intro v3 w3 ho3 hg3))
            have hb03 := hb02.grown hg3 hb02.size (OwnsB.from ho2)
            rw [← data_app] at ho3
            clear hown hoa ho1 ho2 hb hb1 hba hb01 hb02 hg2 hg3 c1 c2 d1 e1 e2
            go_roundw
            case rel => exact ⟨k + 1, _, true, by omega, by go_num, rfl, by rw [ByteArray.size_append, zz]; omega, ho3, HN, hb03⟩
            case measure => simp [intOf]; omega
        · have hq := same_no he
          rw [gStep_no he] at hnx
          have HN : Hid (getF (l.take (k + 1)) n = (x, fd)) := hnx
          clear hnx he
          go_wp2_with (go_at_call 144; refine (implLow _ _ z1).mono ?_; rintro e w1 ⟨rfl, hb1⟩; have ho1 := hoa.kept hb1; have hb01 := hba.trans (hb1.mono hba.size))
          clear hown hoa hb hb1 hba c1 c2 d1
          go_roundw
          case rel => exact ⟨k + 1, _, fd, by omega, by go_num, rfl, by omega, ho1, HN, hb01⟩
          case measure => simp [intOf]; omega
      · have HN : Hid ((x, fd) = getA l n) := by rw [← HG.out, ← getF_end n hlt]; exact hget.out.symm
        have ht := hown.text
        rw [text_of] at ht
        go_wp2
        go_ret2
        exact ⟨ret_get HN.out, hb⟩
end Go.Proofs.YtemmgfnepdgpbaaGreatDoor

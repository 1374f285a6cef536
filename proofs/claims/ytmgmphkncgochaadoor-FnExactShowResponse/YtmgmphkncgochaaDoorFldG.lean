/-
  The contracts of Get, the specification's and the program's.
-/
import Derived.Test.YtmgmphkncgochaaDoorFldL
import Derived.Test.YtmgmphkncgochaaDoorAps
namespace Go.Proofs.YtmgmphkncgochaaDoor
open Go.RowKit Go.Sort

/-- What Get answers. -/
def getE (p : ByteArray × Bool) : Value := .tuple #[.string p.1, .bool p.2]
theorem ret_get {p : ByteArray × Bool} {x : ByteArray} {b : Bool} (h : (x, b) = p) : Ending.returned (.tuple #[.string x, .bool b]) = .returned (getE p) := by subst h; rfl
theorem same_no {a b : ByteArray} (h : ¬ a = b) : (a.toList == b.toList) = false := by rw [str_eq]; simp [h]
theorem same_yes {a b : ByteArray} (h : a = b) : (a.toList == b.toList) = true := by rw [str_eq]; simp [h]

set_option maxHeartbeats 1000000 in
theorem specGetF (v : Value) (l : List Fl) (n : ByteArray) (w : World) (h : Fls w v l) (hok : fldsOk l = true) (hn : n.size ≤ 1048576) :
    Calls Tryd.prog 39 #[v, .string n] w fun e w' => e = .returned (getE (getF l n)) ∧ Below w.heap.size w w' := by
  obtain ⟨a, cap, rfl, h1, h2, h3⟩ := h
  unfold maxLen at h2
  obtain ⟨hl, hfs⟩ := fldsOk_parts hok
  have hnm : n.size ≤ maxLen := by unfold maxLen; omega
  go_enter Tryd.func39, Tryd.ntmps39
  go_wp2
  go_loopw [6, 7, 8] (fun s b i wr => ∃ (k : Nat) (x : ByteArray) (fd : Bool), k ≤ l.length ∧ i = .int .i64 k ∧ s = .string x ∧ b = .bool fd ∧ x.size ≤ 402 * k ∧ Hid (getF (l.take k) n = (x, fd)) ∧ Below w.heap.size w wr) (fun _ _ i _ => l.length - (intOf i).toNat)
  case atStart => exact ⟨0, ⟨#[]⟩, false, Nat.zero_le _, rfl, rfl, rfl, Nat.le_refl _, rfl, Below.refl _ _⟩
  case round =>
    obtain ⟨k, x, fd, hk, rfl, rfl, rfl, hxs, hget, hb⟩ := hrel
    by_cases hlt : k < l.length
    · obtain ⟨g, o, rfl, hg, hc⟩ := h3 (by omega)
      have c1 := (hb.cell (p := ⟨g, o + k * 2, none⟩) hg).trans (hc k hlt).1
      have c2 := (hb.cell (p := ⟨g, o + k * 2 + 1, none⟩) hg).trans (hc k hlt).2
      have hsz := fldOk_size (hfs l[k] (List.getElem_mem hlt))
      have hnx := getF_next n hlt
      rw [hget.out] at hnx
      generalize l[k] = f at c1 c2 hsz hnx
      have hgr : g < wr.heap.size := Nat.lt_of_lt_of_le hg hb.size
      have z1 : f.1.size ≤ maxLen := by unfold maxLen; omega
      clear hc h3 hfs
      by_cases he : lowS f.1 = lowS n
      · have hq := same_yes he
        cases fd with
        | false =>
          rw [gStep_first he] at hnx
          have HN : Hid (getF (l.take (k + 1)) n = (x ++ f.2, true)) := hnx
          clear hnx he
          go_wp2_with fail
          refine (specLow _ _ z1).mono ?_
          rintro e w1 ⟨rfl, hb1⟩
          have d2 := (hb1.cell (p := ⟨g, o + k * 2 + 1, none⟩) hgr).trans c2
          go_wp2_with fail
          refine (specLow _ _ hnm).mono ?_
          rintro e w2 ⟨rfl, hb2⟩
          have e2 := (hb2.cell (p := ⟨g, o + k * 2 + 1, none⟩) (Nat.lt_of_lt_of_le hgr hb1.size)).trans d2
          have hb02 : Below w.heap.size w w2 := (hb.trans (hb1.mono hb.size)).trans (hb2.mono (Nat.le_trans hb.size hb1.size))
          clear c1 c2 d2 hb hb1 hb2
          go_wp2
          go_roundw
          case rel => exact ⟨k + 1, _, true, by omega, by go_num, rfl, rfl, by rw [ByteArray.size_append]; omega, HN, hb02⟩
          case measure => simp [intOf]; omega
        | true =>
          rw [gStep_more he] at hnx
          have HN : Hid (getF (l.take (k + 1)) n = (x ++ ⟨#[44, 32]⟩ ++ f.2, true)) := hnx
          clear hnx he
          have zz : (x ++ (⟨#[44, 32]⟩ : ByteArray)).size = x.size + 2 := by rw [ByteArray.size_append]; rfl
          go_wp2_with fail
          refine (specLow _ _ z1).mono ?_
          rintro e w1 ⟨rfl, hb1⟩
          have d2 := (hb1.cell (p := ⟨g, o + k * 2 + 1, none⟩) hgr).trans c2
          go_wp2_with fail
          refine (specLow _ _ hnm).mono ?_
          rintro e w2 ⟨rfl, hb2⟩
          have e2 := (hb2.cell (p := ⟨g, o + k * 2 + 1, none⟩) (Nat.lt_of_lt_of_le hgr hb1.size)).trans d2
          have hb02 : Below w.heap.size w w2 := (hb.trans (hb1.mono hb.size)).trans (hb2.mono (Nat.le_trans hb.size hb1.size))
          clear c1 c2 d2 hb hb1 hb2
          go_wp2
          go_roundw
          case rel => exact ⟨k + 1, _, true, by omega, by go_num, rfl, rfl, by rw [ByteArray.size_append, zz]; omega, HN, hb02⟩
          case measure => simp [intOf]; omega
      · have hq := same_no he
        rw [gStep_no he] at hnx
        have HN : Hid (getF (l.take (k + 1)) n = (x, fd)) := hnx
        clear hnx he
        go_wp2_with fail
        refine (specLow _ _ z1).mono ?_
        rintro e w1 ⟨rfl, hb1⟩
        go_wp2_with fail
        refine (specLow _ _ hnm).mono ?_
        rintro e w2 ⟨rfl, hb2⟩
        have hb02 : Below w.heap.size w w2 := (hb.trans (hb1.mono hb.size)).trans (hb2.mono (Nat.le_trans hb.size hb1.size))
        clear c1 c2 hb hb1 hb2
        go_wp2
        go_roundw
        case rel => exact ⟨k + 1, _, fd, by omega, by go_num, rfl, rfl, by omega, HN, hb02⟩
        case measure => simp [intOf]; omega
    · have HN : Hid ((x, fd) = getF l n) := by rw [← getF_end n hlt]; exact hget.out.symm
      go_wp2
      go_ret2
      exact ⟨ret_get HN.out, hb⟩

end Go.Proofs.YtmgmphkncgochaaDoor

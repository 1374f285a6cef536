/-
  The contracts of Get, the specification's and the program's.
  The contract of the program's Get.
  The contracts of ShowFields, the specification's and the program's.
  The contracts of the program's parts that leave fields out.
-/
import Derived.Test.YtemmgfnepdgpbaaGreatDoorK15
import Derived.Deep.RegionLaw
import Derived.Test.YtemmgfnepdgpbaaGreatDoorK14
namespace Go.Proofs.YtemmgfnepdgpbaaGreatDoor
open Go.RowKit Go.Sort

/-- What Get answers. -/
def getE (p : ByteArray × Bool) : Value := .tuple #[.string p.1, .bool p.2]
theorem ret_get {p : ByteArray × Bool} {x : ByteArray} {b : Bool} (h : (x, b) = p) : Ending.returned (.tuple #[.string x, .bool b]) = .returned (getE p) := by subst h; rfl
theorem same_no {a b : ByteArray} (h : ¬ a = b) : (a.toList == b.toList) = false := by rw [str_eq]; simp [h]
theorem same_yes {a b : ByteArray} (h : a = b) : (a.toList == b.toList) = true := by rw [str_eq]; simp [h]

end Go.Proofs.YtemmgfnepdgpbaaGreatDoor
namespace Go.Proofs.YtemmgfnepdgpbaaGreatDoor
open Go.RowKit Go.Sort

theorem data_app (a b : ByteArray) : (a ++ b).data.toList = a.data.toList ++ b.data.toList := by rw [ByteArray.data_append, Array.toList_append]
theorem text_of (x : ByteArray) : (⟨x.data.toList.toArray⟩ : ByteArray) = x := by cases x; simp
theorem len_of (x : ByteArray) : x.data.toList.length = x.size := by simp

set_option maxHeartbeats 1000000 in
theorem implGet (v : Value) (l : List Fl) (n : ByteArray) (w : World) (h : Fls w v l) (hz : szL l ≤ 1048576) (hn : n.size ≤ 1048576) :
    Calls Tryz.prog 143 #[v, .string n] w fun e w' => e = .returned (getE (getA l n)) ∧ Below w.heap.size w w' := by
  have hh := h
  obtain ⟨a, cap, rfl, h1, h2, h3⟩ := hh
  unfold maxLen at h2
  have hnm : n.size ≤ maxLen := by unfold maxLen; omega
  cases hok : fldsOk l with
  | false =>
    have HN : Hid ((⟨#[]⟩, false) = getA l n) := getA_no n hok
    go_enter Tryz.func143, Tryz.ntmps143
    go_wp2_with (go_at_call 59; refine (implOk _ l _ h hz).mono ?_; rw [hok]; rintro e w1 ⟨rfl, hb1⟩)
    go_ret2
    exact ⟨ret_get HN.out, hb1⟩
  | true =>
    obtain ⟨hl, hfs⟩ := fldsOk_parts hok
    have HG : Hid (getF l n = getA l n) := getA_yes n hok
    go_enter Tryz.func143, Tryz.ntmps143
    go_wp2_with (first | (go_at_call 59; refine (implOk _ l _ h hz).mono ?_; rw [hok]; rintro e w1 ⟨rfl, hb1⟩) | (go_at_call 144; refine (implLow _ _ hnm).mono ?_; rintro e w2 ⟨rfl, hb2⟩))
    have hb02 := hb1.trans (hb2.mono hb1.size)
    clear hb1 hb2
    go_loopw [7, 8, 18] (fun s b i wr => ∃ (k : Nat) (x : ByteArray) (fd : Bool), k ≤ l.length ∧ i = .int .i64 k ∧ b = .bool fd ∧ x.size ≤ 402 * k ∧ OwnsB wr w.heap.size s x.data.toList ∧ Hid (getF (l.take k) n = (x, fd)) ∧ Below w.heap.size w wr) (fun _ _ i _ => l.length - (intOf i).toNat)
    case atStart => exact ⟨0, ⟨#[]⟩, false, Nat.zero_le _, rfl, rfl, Nat.le_refl _, OwnsB.nil _ _, rfl, hb02⟩
    case round =>
      clear hb02
      obtain ⟨k, x, fd, hk, rfl, rfl, hxs, hown, hget, hb⟩ := hrel
      have hxl := len_of x
      by_cases hlt : k < l.length
      · obtain ⟨g, o, rfl, hg, hc⟩ := h3 (by omega)
        have c1 := (hb.cell (p := ⟨g, o + k * 2, none⟩) hg).trans (hc k hlt).1
        have c2 := (hb.cell (p := ⟨g, o + k * 2 + 1, none⟩) hg).trans (hc k hlt).2
        have hsz := fldOk_size (hfs l[k] (List.getElem_mem hlt))
        have hnx := getF_next n hlt
        rw [hget.out] at hnx
        generalize l[k] = f at c1 c2 hsz hnx
        have z1 : f.1.size ≤ maxLen := by unfold maxLen; omega
        have d1 := box1 wr f 83
        have bl := box_lt wr (.cells #[.string f.1, .string f.2] 83)
        have hba := hb.alloc hb.size (.cells #[.string f.1, .string f.2] 83)
        have hoa := hown.alloc (.cells #[.string f.1, .string f.2] 83)
        have hun := OwnsB.under hown
        clear hc h3 hfs h
        by_cases he : lowS f.1 = lowS n
        · have hq := same_yes he
          cases fd with
          | false =>
            rw [gStep_first he] at hnx
            have HN : Hid (getF (l.take (k + 1)) n = (x ++ f.2, true)) := hnx
            clear hnx he
            go_wp2_with (first
              | (go_at_call 144; refine (implLow _ _ z1).mono ?_; rintro e w1 ⟨rfl, hb1⟩; have e1 := (hb1.cell (p := ⟨wr.heap.size, 1, none⟩) bl).trans d1; have ho1 := hoa.kept hb1; have hb01 := hba.trans (hb1.mono hba.size))
              | (at_builtin; refine wpList_pushStr _ rfl _ _ rfl w.heap.size _ _ _ rfl ho1 rfl (by omega) hb01.size ?_; intro v2 w2 ho2 hg2))
            have hb02 := hb01.grown hg2 hb01.size (OwnsB.from ho1)
            rw [← data_app] at ho2
            clear hown hoa ho1 hb hb1 hba hb01 hg2 c1 c2 d1 e1
            go_roundw
            case rel => exact ⟨k + 1, _, true, by omega, by go_num, rfl, by rw [ByteArray.size_append]; omega, ho2, HN, hb02⟩
            case measure => simp [intOf]; omega
          | true =>
            rw [gStep_more he] at hnx
            have HN : Hid (getF (l.take (k + 1)) n = (x ++ ⟨#[44, 32]⟩ ++ f.2, true)) := hnx
            have zz : (x ++ (⟨#[44, 32]⟩ : ByteArray)).size = x.size + 2 := by rw [ByteArray.size_append]; rfl
            clear hnx he
            go_wp2_with (first
              | (go_at_call 144; refine (implLow _ _ z1).mono ?_; rintro e w1 ⟨rfl, hb1⟩; have e1 := (hb1.cell (p := ⟨wr.heap.size, 1, none⟩) bl).trans d1; have ho1 := hoa.kept hb1; have hb01 := hba.trans (hb1.mono hba.size))
              | (at_builtin; refine wpList_pushStr _ rfl _ _ rfl w.heap.size _ _ _ rfl ho1 rfl (by show _ + 2 ≤ _; omega) hb01.size ?_; intro v2 w2 ho2 hg2; have e2 := grown_cell hg2 e1 (Nat.lt_of_lt_of_le bl hb1.size) (fun j hj => Nat.ne_of_lt (hun j hj)); have hb02 := hb01.grown hg2 hb01.size (OwnsB.from ho1); rw [← data_app] at ho2)
              | (at_builtin; refine wpList_pushStr _ rfl _ _ rfl w.heap.size _ _ _ rfl ho2 rfl (by rw [len_of, zz]; omega) hb02.size ?_; intro v3 w3 ho3 hg3))
            have hb03 := hb02.grown hg3 hb02.size (OwnsB.from ho2)
            rw [← data_app] at ho3
            clear hown hoa ho1 ho2 hb hb1 hba hb01 hb02 hg2 hg3 c1 c2 d1 e1 e2
            go_roundw
            case rel => exact ⟨k + 1, _, true, by omega, by go_num, rfl, by rw [ByteArray.size_append, zz]; omega, ho3, HN, hb03⟩
            case measure => simp [intOf]; omega
        · have hq := same_no he
          rw [gStep_no he] at hnx
          have HN : Hid (getF (l.take (k + 1)) n = (x, fd)) := hnx
          clear hnx he
          go_wp2_with (go_at_call 144; refine (implLow _ _ z1).mono ?_; rintro e w1 ⟨rfl, hb1⟩; have ho1 := hoa.kept hb1; have hb01 := hba.trans (hb1.mono hba.size))
          clear hown hoa hb hb1 hba c1 c2 d1
          go_roundw
          case rel => exact ⟨k + 1, _, fd, by omega, by go_num, rfl, by omega, ho1, HN, hb01⟩
          case measure => simp [intOf]; omega
      · have HN : Hid ((x, fd) = getA l n) := by rw [← HG.out, ← getF_end n hlt]; exact hget.out.symm
        have ht := hown.text
        rw [text_of] at ht
        go_wp2
        go_ret2
        exact ⟨ret_get HN.out, hb⟩
end Go.Proofs.YtemmgfnepdgpbaaGreatDoor
namespace Go.Proofs.YtemmgfnepdgpbaaGreatDoor
open Go.RowKit Go.Sort

theorem showF_text (f : Fl) : (f.1 ++ (⟨#[58, 32]⟩ : ByteArray) ++ f.2 ++ (⟨#[13, 10]⟩ : ByteArray)).data.toList = showF f := by
  rw [data_app, data_app, data_app]; rfl
theorem showF_size (f : Fl) : (f.1 ++ (⟨#[58, 32]⟩ : ByteArray) ++ f.2 ++ (⟨#[13, 10]⟩ : ByteArray)).size = f.1.size + f.2.size + 4 := by
  rw [ByteArray.size_append, ByteArray.size_append, ByteArray.size_append]
  show f.1.size + 2 + f.2.size + 2 = _
  omega

/-- The block of a field is no block of bytes. -/
theorem boxNe {w : World} {B b : Nat} {v : Value} {l : List UInt8} {f : Fl} (h : OwnsB w B v l) (hb : w.heap[b]? = some (.cells #[.string f.1, .string f.2] 83)) : ∀ j, v.ownBlock = some j → j ≠ b := by
  intro j hj e
  subst e
  rcases h.2 with ⟨rfl, _⟩ | ⟨g, cap, cur, rfl, _, hg, _⟩
  · simp [Value.ownBlock] at hj
  · simp only [Value.ownBlock, Option.some.injEq] at hj
    subst hj
    rw [hg] at hb
    simp at hb
theorem boxAt {w : World} {b : Nat} {f : Fl} (hb : w.heap[b]? = some (.cells #[.string f.1, .string f.2] 83)) : w.cell? ⟨b, 1, none⟩ = some (.string f.2) := by
  rw [cell_of_row w b 1 _ _ _ hb]; rfl
theorem boxStays {w w' : World} {b : Nat} {r : Option Nat} {f : Fl} (hb : w.heap[b]? = some (.cells #[.string f.1, .string f.2] 83)) (hg : w.grownBy w' r) (hne : ∀ j, r = some j → j ≠ b) : w'.heap[b]? = some (.cells #[.string f.1, .string f.2] 83) := by
  rw [hg.block b (Array.getElem?_eq_some_iff.1 hb).1 (fun e => hne b e.symm rfl)]; exact hb

set_option maxHeartbeats 1000000 in
theorem specShowL (v : Value) (l : List Fl) (w : World) (h : Fls w v l) (hok : fldsOk l = true) :
    Calls Tryz.prog 65 #[v] w fun e w' => e = .returned (.string ⟨(showL l).toArray⟩) ∧ Below w.heap.size w w' := by
  obtain ⟨a, cap, rfl, h1, h2, h3⟩ := h
  unfold maxLen at h2
  obtain ⟨hl, hfs⟩ := fldsOk_parts hok
  go_enter Tryz.func65, Tryz.ntmps65
  go_wp2
  go_loopw [3, 4] (fun b i wr => ∃ (k : Nat), k ≤ l.length ∧ i = .int .i64 k ∧ OwnsB wr w.heap.size b (showL (l.take k)) ∧ Below w.heap.size w wr) (fun _ i _ => l.length - (intOf i).toNat)
  case atStart => exact ⟨0, Nat.zero_le _, rfl, OwnsB.empty w, (Below.refl _ _).alloc (Nat.le_refl _) _⟩
  case round =>
    obtain ⟨k, hk, rfl, hown, hb⟩ := hrel
    have hsl := showL_length l hfs k hk
    by_cases hlt : k < l.length
    · obtain ⟨g, o, rfl, hg, hc⟩ := h3 (by omega)
      have c1 := (hb.cell (p := ⟨g, o + k * 2, none⟩) hg).trans (hc k hlt).1
      have c2 := (hb.cell (p := ⟨g, o + k * 2 + 1, none⟩) hg).trans (hc k hlt).2
      have hsz := fldOk_size (hfs l[k] (List.getElem_mem hlt))
      have HN : Hid (showL (l.take (k + 1)) = showL (l.take k) ++ showF l[k]) := showL_next hlt
      generalize l[k] = f at c1 c2 hsz HN
      have hst := showF_size f
      have z1 : (f.1 ++ (⟨#[58, 32]⟩ : ByteArray)).size = f.1.size + 2 := by rw [ByteArray.size_append]; rfl
      have z2 : (f.1 ++ (⟨#[58, 32]⟩ : ByteArray) ++ f.2).size = f.1.size + 2 + f.2.size := by rw [ByteArray.size_append, z1]
      generalize showL (l.take k) = s0 at hown hsl HN
      have q1 : ¬ 9223372036854775807 < f.1.size + 2 := by omega
      have q2 : ¬ 9223372036854775807 < f.1.size + 2 + f.2.size := by omega
      have q3 : ¬ 9223372036854775807 < f.1.size + 2 + f.2.size + 2 := by omega
      clear hc h3 hfs
      go_wp2
      go_region_law (refine step_ownStr rfl (.tmp 12) (.tmp 25) rfl w.heap.size _ s0 (f.1 ++ (⟨#[58, 32]⟩ : ByteArray) ++ f.2 ++ (⟨#[13, 10]⟩ : ByteArray)) (by first | rfl | (simp [Act.eval]; done)) (OwnsB.drew hown) (by first | rfl | (simp [Act.eval]; done)) (by omega) hb.size ?_; intro v2 w2 ho2 hg2)
      all_goals
        have hb02 := hb.grown (show wr.grownBy w2 _ from ⟨hg2.os, hg2.tape, hg2.output, hg2.size, hg2.block⟩) hb.size (OwnsB.from hown)
        rw [showF_text, ← HN.out] at ho2
        clear hown hb hg2 c1 c2 hst z1 z2
        go_wp2
        go_roundw
        case rel => exact ⟨k + 1, by omega, by go_num, ho2, hb02⟩
        case measure => simp [intOf]; omega
    · rw [showL_end hlt] at hown
      have ht := hown.text
      go_wp2
      go_ret
      exact ⟨rfl, hb⟩

set_option maxHeartbeats 1000000 in
theorem implShow (v : Value) (l : List Fl) (w : World) (h : Fls w v l) (hz : szL l ≤ 1048576) :
    Calls Tryz.prog 27 #[v] w fun e w' => e = .returned (.string (showA l)) ∧ Below w.heap.size w w' := by
  have hh := h
  obtain ⟨a, cap, rfl, h1, h2, h3⟩ := hh
  unfold maxLen at h2
  cases hok : fldsOk l with
  | false =>
    have HN : Hid (⟨#[]⟩ = showA l) := showA_no hok
    go_enter Tryz.func27, Tryz.ntmps27
    go_wp2_with (go_at_call 59; refine (implOk _ l _ h hz).mono ?_; rw [hok]; rintro e w1 ⟨rfl, hb1⟩)
    go_ret
    exact ⟨ret_strT HN.out, hb1⟩
  | true =>
    obtain ⟨hl, hfs⟩ := fldsOk_parts hok
    have HG : Hid (⟨(showL l).toArray⟩ = showA l) := showA_yes hok
    go_enter Tryz.func27, Tryz.ntmps27
    go_wp2_with (go_at_call 59; refine (implOk _ l _ h hz).mono ?_; rw [hok]; rintro e w1 ⟨rfl, hb1⟩)
    go_loopw [3, 11] (fun b i wr => ∃ (k : Nat), k ≤ l.length ∧ i = .int .i64 k ∧ OwnsB wr w.heap.size b (showL (l.take k)) ∧ Below w.heap.size w wr) (fun _ i _ => l.length - (intOf i).toNat)
    case atStart => exact ⟨0, Nat.zero_le _, rfl, OwnsB.nil _ _, hb1⟩
    case round =>
      clear hb1 h
      obtain ⟨k, hk, rfl, hown, hb⟩ := hrel
      have hsl := showL_length l hfs k hk
      by_cases hlt : k < l.length
      · obtain ⟨g, o, rfl, hg, hc⟩ := h3 (by omega)
        have c1 := (hb.cell (p := ⟨g, o + k * 2, none⟩) hg).trans (hc k hlt).1
        have c2 := (hb.cell (p := ⟨g, o + k * 2 + 1, none⟩) hg).trans (hc k hlt).2
        have hsz := fldOk_size (hfs l[k] (List.getElem_mem hlt))
        have HN : Hid (showL (l.take (k + 1)) = showL (l.take k) ++ showF l[k]) := showL_next hlt
        generalize l[k] = f at c1 c2 hsz HN
        generalize showL (l.take k) = s0 at hown hsl HN
        have d1 : (wr.alloc (.cells #[.string f.1, .string f.2] 83)).heap[wr.heap.size]? = some (.cells #[.string f.1, .string f.2] 83) := heap_alloc_new wr _
        have bl := box_lt wr (.cells #[.string f.1, .string f.2] 83)
        have hba := hb.alloc hb.size (.cells #[.string f.1, .string f.2] 83)
        have hoa := hown.alloc (.cells #[.string f.1, .string f.2] 83)
        have hun := OwnsB.under hown
        have l1 := len_of f.1
        have l2 := len_of f.2
        clear hc h3 hfs
        go_wp2_with (first
          | (at_builtin; refine wpList_pushStr _ rfl _ _ rfl w.heap.size _ _ f.1 rfl hoa rfl (by omega) hba.size ?_; intro v2 w2 ho2 hg2; have d2 := boxStays d1 hg2 (boxNe hoa d1); have hb2 := hba.grown hg2 hba.size (OwnsB.from hoa); have n2 : (s0 ++ f.1.data.toList).length ≤ 20000 := by rw [List.length_append]; omega)
          | (at_builtin; refine wpList_pushStr _ rfl _ _ rfl w.heap.size _ _ ⟨#[58, 32]⟩ rfl ho2 rfl (by show _ + 2 ≤ _; omega) hb2.size ?_; intro v3 w3 ho3 hg3; have d3 := boxAt (boxStays d2 hg3 (boxNe ho2 d2)); have hb3 := hb2.grown hg3 hb2.size (OwnsB.from ho2))
          | (at_builtin; refine wpList_pushStr _ rfl _ _ rfl w.heap.size _ _ f.2 rfl ho3 rfl (by rw [List.length_append]; show _ + 2 + _ ≤ _; omega) hb3.size ?_; intro v4 w4 ho4 hg4; have hb4 := hb3.grown hg4 hb3.size (OwnsB.from ho3))
          | (at_builtin; refine wpList_pushStr _ rfl _ _ rfl w.heap.size _ _ ⟨#[13, 10]⟩ rfl ho4 rfl (by rw [List.length_append, List.length_append]; show _ + 2 + _ + 2 ≤ _; omega) hb4.size ?_; intro v5 w5 ho5 hg5; have hb5 := hb4.grown hg5 hb4.size (OwnsB.from ho4)))
        have HX : Hid (s0 ++ f.1.data.toList ++ [58, 32] ++ f.2.data.toList ++ [13, 10] = showL (l.take (k + 1))) := by
          show _ = _
          rw [HN.out]
          simp [showF]
        have ho6 : OwnsB w5 w.heap.size v5 (showL (l.take (k + 1))) := by rw [← HX.out]; exact ho5
        clear hown hoa ho2 ho3 ho4 ho5 hb hba hb2 hb3 hb4 hg2 hg3 hg4 hg5 c1 c2 d1 d2 d3 HX HN
        go_roundw
        case rel => exact ⟨k + 1, by omega, by go_num, ho6, hb5⟩
        case measure => simp [intOf]; omega
      · rw [showL_end hlt] at hown
        have ht := hown.text
        have HN := HG
        go_wp2
        go_ret
        exact ⟨ret_strT HN.out, hb⟩
end Go.Proofs.YtemmgfnepdgpbaaGreatDoor
namespace Go.Proofs.YtemmgfnepdgpbaaGreatDoor
open Go.RowKit Go.Sort Go.Maps

theorem clone (s : ByteArray) (w : World) (hs : s.size ≤ 1048576) :
    Calls Tryz.prog 99 #[.string s] w fun e w' => e = .returned (.string s) ∧ Below w.heap.size w w' := by
  go_enter Tryz.func99, Tryz.ntmps99
  go_wp2_with (go_at_call 131; refine (Tryz.stringslite_Clone s _ (by omega)).mono ?_; rintro e w1 ⟨rfl, hb1⟩)
  go_ret
  exact ⟨rfl, hb1⟩

theorem implRoom (g n cap : Nat) (w : World) (h : n ≤ cap) :
    Calls Tryz.prog 104 #[.slice (some ⟨g, 0, none⟩) n cap] w fun e w' => e = .returned (.slice (some ⟨g, 0, none⟩) n n) ∧ w = w' := by
  go_enter Tryz.func104, Tryz.ntmps104
  go_wp2
  go_ret
  exact ⟨rfl, rfl⟩

theorem OwnsF.solid {w : World} {B : Nat} {v : Value} {l : List Fl} (h : OwnsF w B v l) (hl : 0 < l.length) : ∃ g cap, v = .slice (some ⟨g, 0, none⟩) l.length cap ∧ l.length ≤ cap ∧ cap ≤ maxLen := by
  rcases h.2 with ⟨_, h0⟩ | ⟨g, cap, cur, rfl, hb, hg, hc, hm, rest⟩
  · omega
  · exact ⟨g, cap, rfl, hc, hm⟩

end Go.Proofs.YtemmgfnepdgpbaaGreatDoor

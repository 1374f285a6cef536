/-
  The contracts of With, the specification's and the program's.
-/
import Derived.Test.YtnkalamfekkmbaaDoorStC
import Derived.Shelf.Abstract
import Derived.Test.YtnkalamfekkmbaaDoorFldQ
namespace Go.Proofs.YtnkalamfekkmbaaDoor
open Go.RowKit Go.Sort Go.Maps

theorem withA_length (l : List Fl) (n v : ByteArray) : (withA l n v).length ≤ 30 := (fldsOk_parts (withA_ok l n v)).1

set_option maxRecDepth 100000 in
set_option maxHeartbeats 2000000 in
theorem specWith (v : Value) (l : List Fl) (n x : ByteArray) (w : World) (h : Fls w v l) (hz : szL l ≤ 1048576) (hn : n.size ≤ 1048576) (hx : x.size ≤ 1048576) :
    Calls Tryd.prog 31 #[v, .string n, .string x] w fun e w' => ∃ u, e = .returned u ∧ OwnsF w' w.heap.size u (withA l n x) ∧ Below w.heap.size w w' := by
  have hh := h
  obtain ⟨a, cap, rfl, _⟩ := hh
  have b0 : (w.alloc (.cells #[.string n, .string x] 53)).cell? ⟨w.heap.size, 0, none⟩ = some (.string n) := box0 w (n, x) 53
  have b1 : (w.alloc (.cells #[.string n, .string x] 53)).cell? ⟨w.heap.size, 1, none⟩ = some (.string x) := box1 w (n, x) 53
  have bl := box_lt w (.cells #[.string n, .string x] 53)
  have hba := (Below.refl w.heap.size w).alloc (Nat.le_refl _) (.cells #[.string n, .string x] 53)
  have ha := h.kept ((Below.refl w.heap.size w).alloc (Nat.le_refl _) (.cells #[.string n, .string x] 53))
  cases hok : fldsOk l with
  | false =>
    rw [← withA_no (n := n) (v := x) (Or.inl hok)]
    go_enter Tryd.func31, Tryd.ntmps31
    go_wp2_with (go_at_call 17; refine (specOk _ l _ ha hz).mono ?_; rw [hok]; rintro e w1 ⟨rfl, hb1⟩)
    have hb01 := hba.trans (hb1.mono hba.size)
    go_ret
    exact ⟨_, rfl, (OwnsF.born w1).low hb01.size, hb01.alloc hb01.size _⟩
  | true =>
    have hbt : Below w.heap.size w (w.alloc (.cells #[.string n, .string x] 53)) := hba
    cases ht : fldOk (n, x) with
    | false =>
      rw [← withA_no (l := l) (Or.inr (Or.inl ht))]
      go_enter Tryd.func31, Tryd.ntmps31
      go_wp2_with (first | (go_at_call 17; refine (specOk _ l _ ha hz).mono ?_; rw [hok]; rintro e w1 ⟨rfl, hb1⟩; have hb01 := hba.trans (hb1.mono hba.size); have d0 := (hb1.cell (p := ⟨w.heap.size, 0, none⟩) bl).trans b0; have d1 := (hb1.cell (p := ⟨w.heap.size, 1, none⟩) bl).trans b1) | (go_at_call 44; refine (specFld (n, x) _ hn hx).mono ?_; rw [ht]; rintro e w2 ⟨rfl, hb2⟩; have hb02 := hb01.trans (hb2.mono hb01.size)))
      go_ret
      exact ⟨_, rfl, (OwnsF.born w2).low hb02.size, hb02.alloc hb02.size _⟩
    | true =>
      have hlw := wo_length l n
      have hl30 := (fldsOk_parts hok).1
      go_enter Tryd.func31, Tryd.ntmps31
      go_wp2_with (first | (go_at_call 17; refine (specOk _ l _ ha hz).mono ?_; rw [hok]; rintro e w1 ⟨rfl, hb1⟩; have hb01 := hba.trans (hb1.mono hba.size); have d0 := (hb1.cell (p := ⟨w.heap.size, 0, none⟩) bl).trans b0; have d1 := (hb1.cell (p := ⟨w.heap.size, 1, none⟩) bl).trans b1) | (go_at_call 44; refine (specFld (n, x) _ hn hx).mono ?_; rw [ht]; rintro e w2 ⟨rfl, hb2⟩; have hb02 := hb01.trans (hb2.mono hb01.size); have hz2 : w.heap.size < w2.heap.size := Nat.lt_of_lt_of_le (Nat.lt_of_lt_of_le bl hb1.size) hb2.size; have e0 := (hb2.cell (p := ⟨w.heap.size, 0, none⟩) (Nat.lt_of_lt_of_le bl hb1.size)).trans d0; have e1 := (hb2.cell (p := ⟨w.heap.size, 1, none⟩) (Nat.lt_of_lt_of_le bl hb1.size)).trans d1))
      have h2 := h.kept hb02
      clear b0 b1 d0 d1 ha hb1 hb2 hb01 hba hbt bl
      have HB : ∀ y, Below w2.heap.size w2 y → y.cell? ⟨w.heap.size, 0, none⟩ = some (.string n) ∧ y.cell? ⟨w.heap.size, 1, none⟩ = some (.string x) ∧ Below w.heap.size w y := fun y hy => ⟨(hy.cell (p := ⟨w.heap.size, 0, none⟩) hz2).trans e0, (hy.cell (p := ⟨w.heap.size, 1, none⟩) hz2).trans e1, hb02.trans (hy.mono hb02.size)⟩
      have q0 : ∀ y : World, (y.alloc (.cells #[.string n, .string x] 53)).cell? ⟨y.heap.size, 0, none⟩ = some (.string n) := fun y => box0 y (n, x) 53
      have q1 : ∀ y : World, (y.alloc (.cells #[.string n, .string x] 53)).cell? ⟨y.heap.size, 1, none⟩ = some (.string x) := fun y => box1 y (n, x) 53
      have HQ0 : Hid (∀ y : World, (y.alloc (.cells #[.string n, .string x] 53)).cell? ⟨y.heap.size, 0, none⟩ = some (.string n)) := q0
      have HQ1 : Hid (∀ y : World, (y.alloc (.cells #[.string n, .string x] 53)).cell? ⟨y.heap.size, 1, none⟩ = some (.string x)) := q1
      have HH : Hid (∀ y, Below w2.heap.size w2 y → y.cell? ⟨w.heap.size, 0, none⟩ = some (.string n) ∧ y.cell? ⟨w.heap.size, 1, none⟩ = some (.string x) ∧ Below w.heap.size w y) := HB
      clear q0 q1 HB
      have hent : ∀ args w, (callFunc 63 args).run Tryd.prog w = .ok (.enter 63 args) w := Go.Proofs.enters_of Tryd.func63 (by kernel_rfl) rfl
      go_region_law (first
        | (refine step_pushF rfl (.tmp 23) (.tmp 25) rfl w.heap.size _ (wo l n) (n, x) (by first | rfl | (simp [Act.eval]; done)) (ho3.alloc _) w3.heap.size (by first | rfl | (simp [Act.eval]; done)) (HQ0.out _) (HQ1.out _) (by omega) (by have := hbw.size; simp; omega) ?_; intro v4 w4 ho4 hg4; have hb4 := (hbw.alloc hbw.size (.cells #[.string n, .string x] 53)).grown hg4 (by have := hbw.size; simp; omega) (OwnsF.from ho3))
        | (refine step_pushF rfl (.tmp 23) (.tmp 25) rfl w.heap.size _ (wo l n) (n, x) (by first | rfl | (simp [Act.eval]; done)) ho3 w2.heap.size (by first | rfl | (simp [Act.eval]; done)) s0 s1 (by omega) hbw.size ?_; intro v4 w4 ho4 hg4; have hb4 := hbw.grown hg4 hbw.size (OwnsF.from ho3))
        | (refine step_call2 rfl 63 (.tmp 21) (.tmp 22) _ rfl (.slice a l.length cap) (.string n) (by first | rfl | (simp [Act.eval]; done)) (by first | rfl | (simp [Act.eval]; done)) (hent _) (fun u w' => OwnsF w' _ u (wo l n) ∧ Below _ _ w') (specWoF _ l n w2.drew h2 hok hn) ?_; rintro u3 w3 ⟨ho3', hb3⟩; have ho3 := ho3'.low hb02.size; obtain ⟨r0, r1, hbw⟩ := HH.out w3 ⟨hb3.os, hb3.tape, hb3.output, hb3.size, hb3.block⟩)
        | (refine step_call2 rfl 63 (.tmp 21) (.tmp 22) _ rfl (.slice a l.length cap) (.string n) (by first | rfl | (simp [Act.eval]; done)) (by first | rfl | (simp [Act.eval]; done)) (hent _) (fun u w' => OwnsF w' _ u (wo l n) ∧ Below _ _ w') (specWoF _ l n (w2.drew.alloc (.cells #[.string n, .string x] 53)) ((show Fls w2.drew (.slice a l.length cap) l from h2).kept ((Below.refl _ w2.drew).alloc (Nat.le_refl _) _)) hok hn) ?_; rintro u3 w3 ⟨ho3', hb3⟩; have ho3 := ho3'.low (Nat.le_trans hb02.size (by simp)); have s0 := (hb3.cell (p := ⟨w2.heap.size, 0, none⟩) (by simp)).trans (HQ0.out w2.drew); have s1 := (hb3.cell (p := ⟨w2.heap.size, 1, none⟩) (by simp)).trans (HQ1.out w2.drew); obtain ⟨r0, r1, hbw⟩ := HH.out w3 (((Below.refl w2.heap.size w2).alloc (Nat.le_refl _) (.cells #[.string n, .string x] 53)).trans ((show Below (w2.alloc (.cells #[.string n, .string x] 53)).heap.size (w2.alloc (.cells #[.string n, .string x] 53)) w3 from ⟨hb3.os, hb3.tape, hb3.output, hb3.size, hb3.block⟩).mono (by simp)))))
      all_goals
        obtain ⟨g4, c4, rfl, hc4, hm4⟩ := ho4.solid (by simp)
        have hN : (wo l n ++ [(n, x)]).length = (wo l n).length + 1 := by simp
        generalize (wo l n ++ [(n, x)]).length = N at hN ho4 hc4 ⊢
        subst hN
        clear HQ0 HQ1 HH hg4 ho3 hbw
        by_cases h30 : (wo l n).length < 30
        · have hN2 : (wo l n).length + 1 ≤ 30 := by omega
          go_wp2
          go_ret
          exact ⟨_, rfl, by rw [← withA_yes hok ht h30]; exact ho4, hb4⟩
        · have hN2 : 30 < (wo l n).length + 1 := by omega
          go_wp2
          go_ret
          exact ⟨_, rfl, by rw [← withA_no (l := l) (n := n) (v := x) (Or.inr (Or.inr h30))]; exact (OwnsF.born w4).low hb4.size, hb4.alloc hb4.size _⟩

set_option maxHeartbeats 2000000 in
theorem implWith (v : Value) (l : List Fl) (n x : ByteArray) (w : World) (h : Fls w v l) (hz : szL l ≤ 1048576) (hn : n.size ≤ 1048576) (hx : x.size ≤ 1048576) :
    Calls Tryd.prog 24 #[v, .string n, .string x] w fun e w' => GivesF w w' e (withA l n x) := by
  have hh := h
  obtain ⟨a, cap, rfl, _⟩ := hh
  cases hok : fldsOk l with
  | false =>
    rw [← withA_no (n := n) (v := x) (Or.inl hok)]
    go_enter Tryd.func24, Tryd.ntmps24
    go_wp2_with (go_at_call 16; refine (implOk _ l _ h hz).mono ?_; rw [hok]; rintro e w1 ⟨rfl, hb1⟩)
    go_ret
    exact gives_none hb1
  | true =>
    cases ht : fldOk (n, x) with
    | false =>
      rw [← withA_no (l := l) (Or.inr (Or.inl ht))]
      go_enter Tryd.func24, Tryd.ntmps24
      go_wp2_with (first | (go_at_call 16; refine (implOk _ l _ h hz).mono ?_; rw [hok]; rintro e w1 ⟨rfl, hb1⟩) | (go_at_call 43; refine (implFld (n, x) _ hn hx).mono ?_; rw [ht]; rintro e w2 ⟨rfl, hb2⟩; have hb02 := hb1.trans (hb2.mono hb1.size)))
      go_ret
      exact gives_none hb02
    | true =>
      have hwo : woA l n = wo l n := (woA_yes hok (fldOk_parts ht).1).symm
      have hlw := wo_length l n
      have hl30 := (fldsOk_parts hok).1
      have cw := fun w1 h1 => implWo (.slice a l.length cap) l n w1 h1 hz hn
      rw [hwo] at cw
      by_cases h30 : (wo l n).length < 30
      · rw [← withA_yes hok ht h30]
        generalize wo l n = L at cw hlw h30
        go_enter Tryd.func24, Tryd.ntmps24
        go_wp2_with (first
          | (go_at_call 16; refine (implOk _ l _ h hz).mono ?_; rw [hok]; rintro e w1 ⟨rfl, hb1⟩)
          | (go_at_call 43; refine (implFld (n, x) _ hn hx).mono ?_; rw [ht]; rintro e w2 ⟨rfl, hb2⟩; have hb02 := hb1.trans (hb2.mono hb1.size))
          | (go_at_call 33; refine (cw _ (h.kept hb02)).mono ?_; rintro e w3 ⟨⟨g, rfl, ho3⟩, hb3⟩; have hb03 := hb02.trans (hb3.mono hb02.size))
          | (go_at_call 56; refine (implNew n x _ hn hx).mono ?_; rintro e w4 ⟨rfl, hb4⟩; have hb04 := hb03.trans (hb4.mono hb03.size); have ho4 := ho3.kept hb4)
          | (at_builtin; refine wpList_growF _ rfl (.tmp 26) (.tmp 30) rfl _ g L (n, x) rfl ho4 rfl (by omega) ?_; intro g5 c5 w5 ho5 hc5 hg5; have hb05 := hb04.grown hg5 hb04.size (fun j hj => by cases hj))
          | (go_at_call 46; refine (implRoom g5 (L.length + 1) c5 _ hc5).mono ?_; rintro e w6 ⟨rfl, rfl⟩))
        go_ret
        have hlen : (L ++ [(n, x)]).length = L.length + 1 := by simp
        refine ⟨⟨g5, by rw [hlen]; rfl, ?_⟩, hb05⟩
        rw [hlen]
        exact (ho5.low hb04.size).has.cut hlen.symm
      · rw [← withA_no (l := l) (n := n) (v := x) (Or.inr (Or.inr h30))]
        generalize wo l n = L at cw hlw h30
        go_enter Tryd.func24, Tryd.ntmps24
        go_wp2_with (first | (go_at_call 16; refine (implOk _ l _ h hz).mono ?_; rw [hok]; rintro e w1 ⟨rfl, hb1⟩) | (go_at_call 43; refine (implFld (n, x) _ hn hx).mono ?_; rw [ht]; rintro e w2 ⟨rfl, hb2⟩; have hb02 := hb1.trans (hb2.mono hb1.size)) | (go_at_call 33; refine (cw _ (h.kept hb02)).mono ?_; rintro e w3 ⟨⟨g, rfl, ho3⟩, hb3⟩; have hb03 := hb02.trans (hb3.mono hb02.size)))
        go_ret
        exact gives_none hb03
end Go.Proofs.YtnkalamfekkmbaaDoor

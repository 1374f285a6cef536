/-
  The program's readSpan by its contract.
-/
import Derived.Test.YtamfgjgmnnnjpaaDoorSpnG
import Derived.Test.YtamfgjgmnnnjpaaDoorSpnT
import Derived.Test.YtamfgjgmnnnjpaaDoorShelfC
import Derived.Lib.IndexMore
namespace Go.Proofs.YtamfgjgmnnnjpaaDoor
open Go.RowKit Go.Sort
set_option linter.unusedVariables false

theorem cut_hit8 {b : UInt8} {l sub : List UInt8} (h : sub.isPrefixOf (b :: l) = true) : Lib.cut (b :: l) sub = ([], (b :: l).drop sub.length, true) := by
  unfold Lib.cut
  rw [Lib.index, if_pos h]
  simp
theorem cut_miss8 {b : UInt8} {l sub : List UInt8} (h : sub.isPrefixOf (b :: l) = false) : Lib.cut (b :: l) sub = if (Lib.cut l sub).2.2 = true then (b :: (Lib.cut l sub).1, (Lib.cut l sub).2.1, true) else (b :: l, [], false) := by
  have hg := Lib.index_ge l sub
  have hi : Lib.index (b :: l) sub = if Lib.index l sub == -1 then -1 else Lib.index l sub + 1 := by
    rw [Lib.index, if_neg (by rw [h]; decide)]
  unfold Lib.cut
  rw [hi]
  by_cases h1 : Lib.index l sub = -1
  · rw [h1]; simp
  · obtain ⟨n, hn⟩ : ∃ n : Nat, Lib.index l sub = n := ⟨(Lib.index l sub).toNat, by omega⟩
    rw [hn]
    have e1 : ((n : Int) == -1) = false := by simp
    have e2 : ((n : Int) + 1).toNat = n + 1 := by omega
    simp only [e1, Bool.false_eq_true, if_false, if_pos (show (0 : Int) ≤ (n : Int) + 1 by omega), if_pos (show (0 : Int) ≤ (n : Int) by omega), if_true, e2, Int.toNat_natCast, List.take_succ_cons]
    rw [show n + 1 + sub.length = (n + sub.length) + 1 from by omega, List.drop_succ_cons]
theorem cut_dsh : ∀ l : List UInt8, Lib.cut l [45] = if dsh l = l.length then (l, [], false) else (l.take (dsh l), l.drop (dsh l + 1), true)
  | [] => rfl
  | c :: t => by
    by_cases h : c = 45
    · subst h
      rw [cut_hit8 (by simp [List.isPrefixOf])]
      simp [dsh]
    · have hp : ([45] : List UInt8).isPrefixOf (c :: t) = false := by
        simp [List.isPrefixOf]
        exact fun e => h e.symm
      have hc : ¬ c.toNat = 45 := fun e => h (UInt8.toNat_inj.1 e)
      have hd : dsh (c :: t) = dsh t + 1 := by simp [dsh, hc]
      rw [cut_miss8 hp, cut_dsh t, hd]
      by_cases e : dsh t = t.length
      · simp [e]
      · rw [if_neg e]; simp [e]
theorem cut8_no {s : ByteArray} (h : dsh s.data.toList = s.size) : Lib.cut s.data.toList [45] = (s.data.toList, [], false) := by rw [cut_dsh, if_pos (by rw [h]; simp)]
theorem cut8_yes {s : ByteArray} (h : ¬ dsh s.data.toList = s.size) : (⟨(Lib.cut s.data.toList [45]).1.toArray⟩ : ByteArray) = s.extract 0 (dsh s.data.toList) ∧ (⟨(Lib.cut s.data.toList [45]).2.1.toArray⟩ : ByteArray) = s.extract (dsh s.data.toList + 1) s.size ∧ (Lib.cut s.data.toList [45]).2.2 = true := by
  have hl : s.data.toList.length = s.size := by simp
  rw [cut_dsh, if_neg (by rw [hl]; exact h)]
  refine ⟨?_, ?_, rfl⟩
  · apply ByteArray.ext
    apply Array.ext'
    simp [List.extract_eq_take_drop]
  · apply ByteArray.ext
    apply Array.ext'
    simp only [ByteArray.data_extract, Array.toList_extract, List.extract_eq_take_drop]
    rw [List.take_of_length_le (by rw [List.length_drop]; omega)]
/-- What readSpan answers, of an item that is one or none. -/
def ItQ (o : Option (Sp × Bool)) (x : Sp) (ok : Bool) : Prop := ok = o.isSome ∧ ∀ y q, o = some (y, q) → spB x = q ∧ (q = true → x = y)
theorem ItQ.none {x : Sp} : ItQ Option.none x false := ⟨rfl, fun _ _ h => by cases h⟩
theorem ItQ.one {x y : Sp} {q : Bool} (h1 : spB x = q) (h2 : q = true → x = y) : ItQ (some (y, q)) x true := ⟨rfl, fun _ _ h => by cases h; exact ⟨h1, h2⟩⟩
theorem extract_none (s : ByteArray) (k : Nat) (h : k = s.size) : (s.extract k s.size).size = 0 := by rw [ByteArray.size_extract]; omega
theorem void_eq (x : ByteArray) : (x.toList == []) = decide (x.size = 0) := by
  have e : x.toList = x.data.toList := by rw [ByteArray.toList_eq]
  rw [e]
  have h : x.data.toList.length = x.size := by simp
  cases hx : x.data.toList with
  | nil => rw [hx] at h; simp at h; simp [← h]
  | cons a b =>
    rw [hx] at h
    have h2 : ¬ x.size = 0 := by rw [← h]; simp
    rw [decide_eq_false h2]; rfl
theorem cell_lt8z {w : World} {b o : Nat} {v : Value} (h : w.cell? ⟨b, o, Option.none⟩ = some v) : b < w.heap.size := by
  obtain ⟨c, e, fr, hb, _⟩ := cells_of_cell? h
  exact (Array.getElem?_eq_some_iff.1 hb).1
theorem mx8 (a : Int) : max a 0 = maxI 0 a := by unfold maxI; split <;> omega
theorem mn8 (a b : Int) : min a b = minI a b := by unfold minI; split <;> omega
theorem spq1 (n b : Int) : spB (max (n - b) 0, n - 1) = (decide (0 < b) && decide (0 < n)) := by
  unfold spB
  rw [← Bool.decide_and]
  exact decide_eq_decide.2 (by simp only; omega)
theorem spq2 {a n : Int} (h : 0 ≤ a) : spB (a, n - 1) = decide (a < n) := by unfold spB; exact decide_eq_decide.2 (by simp only; omega)
theorem spq3 {a b n : Int} (h : 0 ≤ a) (h2 : a ≤ b) : spB (a, min b (n - 1)) = decide (a < n) := by unfold spB; exact decide_eq_decide.2 (by simp only; omega)
def cuA (s : ByteArray) : ByteArray := ⟨(Lib.cut s.data.toList [45]).1.toArray⟩
def cuB (s : ByteArray) : ByteArray := ⟨(Lib.cut s.data.toList [45]).2.1.toArray⟩
def cuC (s : ByteArray) : Bool := (Lib.cut s.data.toList [45]).2.2
theorem cutD (s : ByteArray) (m : Int) (w : World) (hs : s.size ≤ 1000) (hm : w.cell? ⟨1, 0, Option.none⟩ = some (.int .i64 m)) :
    Calls Tryd.prog 50 #[.string s, .string ⟨#[45]⟩] w fun e w' => e = .returned (.tuple #[.string (cuA s), .string (cuB s), .bool (cuC s)]) ∧ Below w.heap.size w w' :=
  (Tryd.strings_Cut s ⟨#[45]⟩ m w (by omega) hm).mono fun e w' ⟨h1, n, h2⟩ => ⟨h1, by rw [h2]; exact belowN (Below.refl _ _)⟩
theorem cuA_size (s : ByteArray) : (cuA s).size ≤ s.size ∧ (cuB s).size ≤ s.size := by
  by_cases h : dsh s.data.toList = s.size
  · unfold cuA cuB; rw [cut8_no h]; exact ⟨Nat.le_refl _, Nat.zero_le _⟩
  · obtain ⟨h1, h2, _⟩ := cut8_yes h
    unfold cuA cuB
    rw [h1, h2, ByteArray.size_extract, ByteArray.size_extract]
    omega
set_option maxHeartbeats 4000000 in
theorem implItm (s : ByteArray) (n : Int) (m : Int) (w : World) (hs : s.size ≤ 1000) (hn0 : 0 ≤ n) (hn1 : n ≤ 4000) (hm : w.cell? ⟨1, 0, Option.none⟩ = some (.int .i64 m)) :
    Calls Tryd.prog 31 #[.string s, .int .i64 n] w fun e w' => ∃ x ok, e = .returned (.tuple #[spV x, .bool ok]) ∧ ItQ (itmS s n) x ok ∧ Below w.heap.size w w' := by
  have hi := itmS_is s n
  have hsz := cuA_size s
  have hd1 := fun W => implDig (cuA s) W (by unfold maxLen; omega)
  have hd2 := fun W => implDig (cuB s) W (by unfold maxLen; omega)
  have hcu := fun W hW => cutD s m W hs hW
  unfold numE at hd1 hd2
  have B0 : Hid (Below w.heap.size w (w.alloc (.cells #[.int .i64 0, .int .i64 0] 30))) := (Below.refl _ w).alloc (Nat.le_refl _) _
  have M0 : Hid ((w.alloc (.cells #[.int .i64 0, .int .i64 0] 30)).cell? ⟨1, 0, Option.none⟩ = some (.int .i64 m)) := (B0.out.cell (p := ⟨1, 0, Option.none⟩) (cell_lt8z hm)).trans hm
  have TB0 : Hid (SpBk (w.alloc (.cells #[.int .i64 0, .int .i64 0] 30)) w.heap.size (0, 0)) := SpBk.new w (0, 0) 30
  clear hm
  have en : IntKind.i64.wrap (n - 1) = n - 1 := by rw [IntKind.wrap_i64]; omega
  by_cases hK : dsh s.data.toList = s.size
  · have hc : cuC s = false := by unfold cuC; rw [cut8_no hK]
    have HI : Hid (itmS s n = none) := by show _ = _; rw [hi]; unfold itmP; rw [if_pos hK]
    rw [hc] at hcu
    clear hi hc hK
    generalize cuA s = P at hcu hd1
    generalize cuB s = Q at hcu hd2
    generalize numV 10 15 P = a at hd1
    generalize numOk 10 15 P = one at hd1
    generalize numV 10 15 Q = b at hd2
    generalize numOk 10 15 Q = two at hd2
    clear hsz
    go_enter Tryd.func31, Tryd.ntmps31
    go_wp2_with fail
    refine (hcu _ M0.out).mono ?_
    rintro e w1 ⟨rfl, hb1⟩
    have B1 : Hid (Below w.heap.size w w1) := B0.out.trans (hb1.mono (by simp))
    have TB1 : Hid (SpBk w1 w.heap.size (0, 0)) := TB0.out.kept hb1
    clear hb1 TB0 hcu M0 B0
    go_wp2_with fail
    refine (hd1 _).mono ?_
    rintro e w2 ⟨rfl, hb2⟩
    have B2 : Hid (Below w.heap.size w w2) := B1.out.trans (hb2.mono B1.out.size)
    have TB2 : Hid (SpBk w2 w.heap.size (0, 0)) := TB1.out.kept hb2
    clear hb2 TB1 B1 hd1
    go_wp2_with fail
    refine (hd2 _).mono ?_
    rintro e w3 ⟨rfl, hb3⟩
    have B3 : Hid (Below w.heap.size w w3) := B2.out.trans (hb3.mono B2.out.size)
    have TB3 : Hid (SpBk w3 w.heap.size (0, 0)) := TB2.out.kept hb3
    clear hb3 TB2 B2 hd2
    have t0 := TB3.out.c0
    have t1 := TB3.out.c1
    have fz := TB3.out.fz
    have PP : Hid (∀ x y : Int, SpBk ((w3.setCell ⟨w.heap.size, 0, Option.none⟩ (.int .i64 x)).setCell ⟨w.heap.size, 1, Option.none⟩ (.int .i64 y)) w.heap.size (x, y) ∧ Below w.heap.size w ((w3.setCell ⟨w.heap.size, 0, Option.none⟩ (.int .i64 x)).setCell ⟨w.heap.size, 1, Option.none⟩ (.int .i64 y))) := fun x y => ⟨TB3.out.put (x, y), (B3.out.setCell (Nat.le_refl _) _).setCell (Nat.le_refl _) _⟩
    go_wp2
    obtain ⟨P1, BB⟩ := PP.out 0 0
    have p0 := P1.c0
    have p1 := P1.c1
    exact bodyPost_ret (v := .tuple #[.agg #[.int .i64 0, .int .i64 0], .bool false]) (by simp [results, Tryd.results31, go_sem, p0, p1]) rfl ⟨(0, 0), false, rfl, by rw [HI.out]; exact ItQ.none, BB⟩
  · have hk1 := dsh_le s.data.toList
    have hl : s.data.toList.length = s.size := by simp
    obtain ⟨c1, c2, c3⟩ := cut8_yes hK
    have hc : cuC s = true := c3
    have ha : cuA s = s.extract 0 (dsh s.data.toList) := c1
    have hb : cuB s = s.extract (dsh s.data.toList + 1) s.size := c2
    rw [hc] at hcu
    have hPz : (cuA s).size = dsh s.data.toList := by rw [ha, ByteArray.size_extract]; omega
    have hQz : (cuB s).size = s.size - (dsh s.data.toList + 1) := by rw [hb, ByteArray.size_extract]; omega
    rw [← ha, ← hb] at hi
    have g1 := numV_bound (cuA s)
    have g2 := numV_bound (cuB s)
    have o1 : numOk 10 15 (cuA s) = true → ¬ (cuA s).size = 0 := fun h e => by rw [numOk_out (.inl (by omega))] at h; cases h
    have o2 : numOk 10 15 (cuB s) = true → ¬ (cuB s).size = 0 := fun h e => by rw [numOk_out (.inl (by omega))] at h; cases h
    have v1 := void_eq (cuA s)
    have v2 := void_eq (cuB s)
    have HI : Hid (itmS s n = _) := hi
    clear hi hc ha hb c1 c2 c3 hsz
    generalize itmS s n = R at HI ⊢
    generalize dsh s.data.toList = K at HI hK hk1 hPz hQz
    generalize cuA s = P at hcu hd1 HI hPz g1 o1 v1
    generalize cuB s = Q at hcu hd2 HI hQz g2 o2 v2
    generalize numV 10 15 P = a at hd1 HI g1
    generalize numOk 10 15 P = one at hd1 HI o1
    generalize numV 10 15 Q = b at hd2 HI g2
    generalize numOk 10 15 Q = two at hd2 HI o2
    have hlt2 : ¬ K = s.size := hK
    have eb : IntKind.i64.wrap (n - b) = n - b := by rw [IntKind.wrap_i64]; omega
    go_enter Tryd.func31, Tryd.ntmps31
    go_wp2_with fail
    refine (hcu _ M0.out).mono ?_
    rintro e w1 ⟨rfl, hb1⟩
    have B1 : Hid (Below w.heap.size w w1) := B0.out.trans (hb1.mono (by simp))
    have TB1 : Hid (SpBk w1 w.heap.size (0, 0)) := TB0.out.kept hb1
    clear hb1 TB0 hcu M0 B0
    go_wp2_with fail
    refine (hd1 _).mono ?_
    rintro e w2 ⟨rfl, hb2⟩
    have B2 : Hid (Below w.heap.size w w2) := B1.out.trans (hb2.mono B1.out.size)
    have TB2 : Hid (SpBk w2 w.heap.size (0, 0)) := TB1.out.kept hb2
    clear hb2 TB1 B1 hd1
    go_wp2_with fail
    refine (hd2 _).mono ?_
    rintro e w3 ⟨rfl, hb3⟩
    have B3 : Hid (Below w.heap.size w w3) := B2.out.trans (hb3.mono B2.out.size)
    have TB3 : Hid (SpBk w3 w.heap.size (0, 0)) := TB2.out.kept hb3
    clear hb3 TB2 B2 hd2
    have t0 := TB3.out.c0
    have t1 := TB3.out.c1
    have fz := TB3.out.fz
    have PP : Hid (∀ x y : Int, SpBk ((w3.setCell ⟨w.heap.size, 0, Option.none⟩ (.int .i64 x)).setCell ⟨w.heap.size, 1, Option.none⟩ (.int .i64 y)) w.heap.size (x, y) ∧ Below w.heap.size w ((w3.setCell ⟨w.heap.size, 0, Option.none⟩ (.int .i64 x)).setCell ⟨w.heap.size, 1, Option.none⟩ (.int .i64 y))) := fun x y => ⟨TB3.out.put (x, y), (B3.out.setCell (Nat.le_refl _) _).setCell (Nat.le_refl _) _⟩
    cases two with
    | true =>
      have q0 : ¬ Q.size = 0 := o2 rfl
      have v2 : (Q.toList == []) = false := v2.trans (decide_eq_false q0)
      by_cases hz : K = 0
      · have v1 : (P.toList == []) = true := v1.trans (decide_eq_true (by omega))
        have HR : Hid (R = some ((maxI 0 (n - b), n - 1), decide (0 < b) && decide (0 < n))) := HI.out.trans (itmP_1 hlt2 hz rfl)
        clear HI o1 o2
        go_wp2
        obtain ⟨P1, BB⟩ := PP.out (max (n - b) 0) (n - 1)
        have p0 := P1.c0
        have p1 := P1.c1
        exact bodyPost_ret (v := .tuple #[.agg #[.int .i64 (max (n - b) 0), .int .i64 (n - 1)], .bool true]) (by simp [results, Tryd.results31, go_sem, p0, p1]) rfl ⟨(max (n - b) 0, n - 1), true, rfl, by rw [HR.out]; exact ItQ.one (spq1 n b) (fun _ => by rw [mx8]), BB⟩
      · have v1 : (P.toList == []) = false := v1.trans (decide_eq_false (by omega))
        have hw1 : ¬ (K = 0 ∧ (true : Bool) = true) := fun h => hz h.1
        cases one with
        | true =>
          by_cases hab : a ≤ b
          · have dab : decide (a ≤ b) = true := decide_eq_true hab
            have HR : Hid (R = some ((a, minI b (n - 1)), decide (a < n))) := HI.out.trans (itmP_2 hlt2 hw1 rfl rfl hab)
            clear HI o1 o2
            go_wp2
            obtain ⟨P1, BB⟩ := PP.out (a) (min b (n - 1))
            have p0 := P1.c0
            have p1 := P1.c1
            exact bodyPost_ret (v := .tuple #[.agg #[.int .i64 (a), .int .i64 (min b (n - 1))], .bool true]) (by simp [results, Tryd.results31, go_sem, p0, p1]) rfl ⟨(a, min b (n - 1)), true, rfl, by rw [HR.out]; exact ItQ.one (spq3 g1.1 hab) (fun _ => by rw [mn8]), BB⟩
          · have dab : decide (a ≤ b) = false := decide_eq_false hab
            have HR : Hid (R = none) := HI.out.trans (itmP_4 hlt2 hw1 (fun h => hab h.2) (fun h => by omega))
            clear HI o1 o2
            go_wp2
            obtain ⟨P1, BB⟩ := PP.out (0) (0)
            have p0 := P1.c0
            have p1 := P1.c1
            exact bodyPost_ret (v := .tuple #[.agg #[.int .i64 (0), .int .i64 (0)], .bool false]) (by simp [results, Tryd.results31, go_sem, p0, p1]) rfl ⟨(0, 0), false, rfl, by rw [HR.out]; exact ItQ.none, BB⟩
        | false =>
          have HR : Hid (R = none) := HI.out.trans (itmP_4 hlt2 hw1 (fun h => by cases h.1.1) (fun h => by cases h.1))
          clear HI o1 o2
          go_wp2
          obtain ⟨P1, BB⟩ := PP.out (0) (0)
          have p0 := P1.c0
          have p1 := P1.c1
          exact bodyPost_ret (v := .tuple #[.agg #[.int .i64 (0), .int .i64 (0)], .bool false]) (by simp [results, Tryd.results31, go_sem, p0, p1]) rfl ⟨(0, 0), false, rfl, by rw [HR.out]; exact ItQ.none, BB⟩
    | false =>
      have hw1 : ¬ (K = 0 ∧ (false : Bool) = true) := fun h => by cases h.2
      cases one with
      | true =>
        have hz : ¬ K = 0 := fun e => o1 rfl (by omega)
        have v1 : (P.toList == []) = false := v1.trans (decide_eq_false (by omega))
        by_cases q0 : Q.size = 0
        · have v2 : (Q.toList == []) = true := v2.trans (decide_eq_true q0)
          have HR : Hid (R = some ((a, n - 1), decide (a < n))) := HI.out.trans (itmP_3 hlt2 hw1 (fun h => by cases h.1.2) rfl (by omega))
          clear HI o1 o2
          go_wp2
          obtain ⟨P1, BB⟩ := PP.out (a) (n - 1)
          have p0 := P1.c0
          have p1 := P1.c1
          exact bodyPost_ret (v := .tuple #[.agg #[.int .i64 (a), .int .i64 (n - 1)], .bool true]) (by simp [results, Tryd.results31, go_sem, p0, p1]) rfl ⟨(a, n - 1), true, rfl, by rw [HR.out]; exact ItQ.one (spq2 g1.1) (fun _ => rfl), BB⟩
        · have v2 : (Q.toList == []) = false := v2.trans (decide_eq_false q0)
          have HR : Hid (R = none) := HI.out.trans (itmP_4 hlt2 hw1 (fun h => by cases h.1.2) (fun h => by omega))
          clear HI o1 o2
          go_wp2
          obtain ⟨P1, BB⟩ := PP.out (0) (0)
          have p0 := P1.c0
          have p1 := P1.c1
          exact bodyPost_ret (v := .tuple #[.agg #[.int .i64 (0), .int .i64 (0)], .bool false]) (by simp [results, Tryd.results31, go_sem, p0, p1]) rfl ⟨(0, 0), false, rfl, by rw [HR.out]; exact ItQ.none, BB⟩
      | false =>
        have HR : Hid (R = none) := HI.out.trans (itmP_4 hlt2 hw1 (fun h => by cases h.1.1) (fun h => by cases h.1))
        clear HI o1 o2
        by_cases hz : K = 0
        · have v1 : (P.toList == []) = true := v1.trans (decide_eq_true (by omega))
          go_wp2
          obtain ⟨P1, BB⟩ := PP.out (0) (0)
          have p0 := P1.c0
          have p1 := P1.c1
          exact bodyPost_ret (v := .tuple #[.agg #[.int .i64 (0), .int .i64 (0)], .bool false]) (by simp [results, Tryd.results31, go_sem, p0, p1]) rfl ⟨(0, 0), false, rfl, by rw [HR.out]; exact ItQ.none, BB⟩
        · have v1 : (P.toList == []) = false := v1.trans (decide_eq_false (by omega))
          go_wp2
          obtain ⟨P1, BB⟩ := PP.out (0) (0)
          have p0 := P1.c0
          have p1 := P1.c1
          exact bodyPost_ret (v := .tuple #[.agg #[.int .i64 (0), .int .i64 (0)], .bool false]) (by simp [results, Tryd.results31, go_sem, p0, p1]) rfl ⟨(0, 0), false, rfl, by rw [HR.out]; exact ItQ.none, BB⟩
end Go.Proofs.YtamfgjgmnnnjpaaDoor

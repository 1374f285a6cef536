/-
  The specification's ReadSpans by its contract.
-/
import Derived.Test.YtamfgjgmnnnjpaaDoorSpnR
import Derived.Test.YtamfgjgmnnnjpaaDoorSpnC
import Derived.Test.YtamfgjgmnnnjpaaDoorNum
import Derived.Test.YtamfgjgmnnnjpaaDoorItmZ
namespace Go.Proofs.YtamfgjgmnnnjpaaDoor
open Go.RowKit Go.Sort
set_option linter.unusedVariables false

/-- What l8Item answers, as a value. -/
def itV (o : Option (Sp × Bool)) : Value := .tuple #[spV ((o.map fun x => x.1).getD (0, 0)), .bool o.isSome, .bool ((o.map fun x => x.2).getD false)]
theorem specMinI (a b : Int) (w : World) : Calls Tryd.prog 56 #[.int .i64 a, .int .i64 b] w fun e w' => e = .returned (.int .i64 (minI a b)) ∧ w = w' := by
  unfold minI
  by_cases h : a < b
  · rw [if_pos h]
    go_enter Tryd.func56, Tryd.ntmps56
    go_wp2
    go_ret
    exact ⟨rfl, rfl⟩
  · rw [if_neg h]
    go_enter Tryd.func56, Tryd.ntmps56
    go_wp2
    go_ret
    exact ⟨rfl, rfl⟩
theorem itmP_1 {k z : Nat} {a b : Int} {one two : Bool} {n : Int} (hk : ¬ k = z) (h0 : k = 0) (h1 : two = true) : itmP k z a b one two n = some ((maxI 0 (n - b), n - 1), decide (0 < b) && decide (0 < n)) := by
  unfold itmP; rw [if_neg hk, if_pos ⟨h0, h1⟩]
theorem itmP_2 {k z : Nat} {a b : Int} {one two : Bool} {n : Int} (hk : ¬ k = z) (h0 : ¬ (k = 0 ∧ two = true)) (h1 : one = true) (h2 : two = true) (h3 : a ≤ b) : itmP k z a b one two n = some ((a, minI b (n - 1)), decide (a < n)) := by
  unfold itmP; rw [if_neg hk, if_neg h0, if_pos ⟨⟨h1, h2⟩, h3⟩]
theorem itmP_3 {k z : Nat} {a b : Int} {one two : Bool} {n : Int} (hk : ¬ k = z) (h0 : ¬ (k = 0 ∧ two = true)) (h1 : ¬ ((one = true ∧ two = true) ∧ a ≤ b)) (h2 : one = true) (h3 : k + 1 = z) : itmP k z a b one two n = some ((a, n - 1), decide (a < n)) := by
  unfold itmP; rw [if_neg hk, if_neg h0, if_neg h1, if_pos ⟨h2, h3⟩]
theorem itmP_4 {k z : Nat} {a b : Int} {one two : Bool} {n : Int} (hk : ¬ k = z) (h0 : ¬ (k = 0 ∧ two = true)) (h1 : ¬ ((one = true ∧ two = true) ∧ a ≤ b)) (h2 : ¬ (one = true ∧ k + 1 = z)) : itmP k z a b one two n = none := by
  unfold itmP; rw [if_neg hk, if_neg h0, if_neg h1, if_neg h2]
/-- A span in a block. -/
structure SpBk (w : World) (b : Nat) (x : Sp) : Prop where
  c0 : w.cell? ⟨b, 0, Option.none⟩ = some (.int .i64 x.1)
  c1 : w.cell? ⟨b, 1, Option.none⟩ = some (.int .i64 x.2)
  fz : ∀ k, w.frozen? ⟨b, k, Option.none⟩ = false
  hi : b < w.heap.size
theorem SpBk.new (w : World) (x : Sp) (t : TypeId) : SpBk (w.alloc (.cells #[.int .i64 x.1, .int .i64 x.2] t)) w.heap.size x where
  c0 := World.cell?_alloc_mark _ _ _ _ _
  c1 := World.cell?_alloc_mark _ _ _ _ _
  fz := fun k => by rw [World.frozen?_alloc_mark]; simp
  hi := by simp
theorem SpBk.kept {w w' : World} {b : Nat} {x : Sp} (h : SpBk w b x) (hb : Below w.heap.size w w') : SpBk w' b x := by
  have e : w'.heap[b]? = w.heap[b]? := hb.block b h.hi
  have k : ∀ k, w'.cell? ⟨b, k, Option.none⟩ = w.cell? ⟨b, k, Option.none⟩ := fun k => World.cell?_of_block (a := ⟨b, k, Option.none⟩) e
  exact ⟨(k 0).trans h.c0, (k 1).trans h.c1, fun j => (World.frozen?_of_block (a := ⟨b, j, Option.none⟩) e).trans (h.fz j), Nat.lt_of_lt_of_le h.hi hb.size⟩
theorem SpBk.alloc {w : World} {b : Nat} {x : Sp} (h : SpBk w b x) (o : Obj) : SpBk (w.alloc o) b x := h.kept ((Below.refl _ w).alloc (Nat.le_refl _) o)
theorem SpBk.put {w : World} {b : Nat} {y : Sp} (h : SpBk w b y) (x : Sp) : SpBk ((w.setCell ⟨b, 0, Option.none⟩ (.int .i64 x.1)).setCell ⟨b, 1, Option.none⟩ (.int .i64 x.2)) b x where
  c0 := by rw [World.cell?_setCell_other _ _ _ _ (by simp)]; exact World.cell?_setCell_same _ _ _ h.c0
  c1 := World.cell?_setCell_same _ _ _ (by rw [World.cell?_setCell_other _ _ _ _ (by simp)]; exact h.c1)
  fz := fun k => by rw [World.frozen?_setCell, World.frozen?_setCell]; exact h.fz k
  hi := by rw [World.size_setCell, World.size_setCell]; exact h.hi
theorem itV_none : itV none = .tuple #[.agg #[.int .i64 0, .int .i64 0], .bool false, .bool false] := rfl
theorem itV_some (x : Sp) (q : Bool) : itV (some (x, q)) = .tuple #[.agg #[.int .i64 x.1, .int .i64 x.2], .bool true, .bool q] := rfl
theorem ret_itV {o : Option (Sp × Bool)} {v : Value} (h : v = itV o) : Ending.returned v = .returned (itV o) := by rw [h]
theorem numL_bound (l : List UInt8) : ∀ (acc : Int) (m : Nat), 0 ≤ acc → acc < 10 ^ m → allB (digN 10) l = true → 0 ≤ l.foldl (fun n c => n * 10 + digV (c.toNat : Int)) acc ∧ l.foldl (fun n c => n * 10 + digV (c.toNat : Int)) acc < 10 ^ (m + l.length) := by
  induction l with
  | nil => intro acc m h1 h2 _; exact ⟨h1, h2⟩
  | cons c l ih =>
    intro acc m h1 h2 ha
    have h3 : digN 10 (c.toNat : Int) = true ∧ allB (digN 10) l = true := by unfold allB at ha ⊢; rw [List.all_cons, Bool.and_eq_true] at ha; exact ha
    have h4 := of_decide_eq_true h3.1
    have := ih (acc * 10 + digV (c.toNat : Int)) (m + 1) (by omega) (by rw [Int.pow_succ]; omega) h3.2
    rw [List.length_cons, show m + (l.length + 1) = m + 1 + l.length by omega]
    exact this
theorem numV_bound (t : ByteArray) : 0 ≤ numV 10 15 t ∧ numV 10 15 t < 1000000000000000 := by
  unfold numV
  split
  · rename_i h
    unfold numOk at h
    rw [Bool.and_eq_true] at h
    have h1 := of_decide_eq_true h.1
    have h2 := numL_bound t.data.toList 0 0 (Int.le_refl _) (by decide) h.2
    have hl : t.data.toList.length = t.size := by simp
    rw [hl, Nat.zero_add] at h2
    refine ⟨h2.1, Int.lt_of_lt_of_le h2.2 ?_⟩
    have : (10 : Int) ^ t.size ≤ 10 ^ 15 := by
      have h3 : (10 : Nat) ^ t.size ≤ 10 ^ 15 := Nat.pow_le_pow_right (by decide) h1.2
      exact_mod_cast h3
    exact this
  · exact ⟨Int.le_refl _, by decide⟩
set_option maxHeartbeats 4000000 in
theorem specItm (s : ByteArray) (n : Int) (w : World) (hs : s.size ≤ 1000) (hn0 : 0 ≤ n) (hn1 : n ≤ 4000) :
    Calls Tryd.prog 37 #[.string s, .int .i64 n] w fun e w' => e = .returned (itV (itmS s n)) ∧ Below w.heap.size w w' := by
  have hi := itmS_is s n
  have hg := numV_bound (s.extract 0 (dsh s.data.toList))
  have hg2 := numV_bound (s.extract (dsh s.data.toList + 1) s.size)
  have HG : Hid (∀ k, k ≤ s.size → (∀ j (h : j < s.size), j < k → ¬ s[j].toNat = 45) → (∀ h : k < s.size, s[k].toNat = 45) → dsh s.data.toList = k) := fun k h1 h2 h3 => dsh_is (l := s.data.toList) (by simpa using h1) (fun j h hj => h2 j (by simpa using h) hj) (fun h => h3 (by simpa using h))
  have hd1 := fun W => specDig (s.extract 0 (dsh s.data.toList)) W (by unfold maxLen; simp; omega)
  have hd2 := fun W => specDig (s.extract (dsh s.data.toList + 1) s.size) W (by unfold maxLen; simp; omega)
  unfold numE at hd1 hd2
  have HI : Hid (itmS s n = _) := hi
  generalize itmS s n = R at HI ⊢
  generalize hK : dsh s.data.toList = K at HI hg hg2 HG hd1 hd2
  clear hi
  generalize numV 10 15 (s.extract 0 K) = a at HI hg hd1
  generalize numOk 10 15 (s.extract 0 K) = one at HI hd1
  generalize numV 10 15 (s.extract (K + 1) s.size) = b at HI hg2 hd2
  generalize numOk 10 15 (s.extract (K + 1) s.size) = two at HI hd2
  have T0 : Hid ((w.alloc (.cells #[.int .i64 0, .int .i64 0] 30)).cell? ⟨w.heap.size, 0, Option.none⟩ = some (.int .i64 0) ∧ (w.alloc (.cells #[.int .i64 0, .int .i64 0] 30)).cell? ⟨w.heap.size, 1, Option.none⟩ = some (.int .i64 0)) := ⟨World.cell?_alloc_mark _ _ _ _ _, World.cell?_alloc_mark _ _ _ _ _⟩
  clear hK
  go_enter Tryd.func37, Tryd.ntmps37
  go_wp2
  go_loop [7] (fun i => ∃ k : Nat, k ≤ s.size ∧ i = .int .i64 k ∧ Hid (∀ j (h : j < s.size), j < k → ¬ s[j].toNat = 45)) (fun i => s.size - (intOf i).toNat)
  case atStart => exact ⟨0, Nat.zero_le _, rfl, fun j h hj => by omega⟩
  case round =>
    obtain ⟨k, hk, rfl, hin⟩ := hrel
    by_cases hlt : k < s.size
    · by_cases hc : s[k].toNat = 45
      · have hKk : K = k := HG.out k hk hin.out (fun h => hc)
        have dc : ((s[k].toNat : Int) != 45) = false := by rw [hc]; rfl
        subst hKk
        clear HG hin hc
        --MAIN
        have hlt2 : ¬ K = s.size := by omega
        have TB0 : Hid (SpBk (w.alloc (.cells #[.int .i64 0, .int .i64 0] 30)) w.heap.size (0, 0)) := SpBk.new w (0, 0) 30
        have en : IntKind.i64.wrap (n - 1) = n - 1 := by rw [IntKind.wrap_i64]; omega
        have eb : IntKind.i64.wrap (n - b) = n - b := by rw [IntKind.wrap_i64]; omega
        have hmx1 := fun W => specMaxI 0 (n - b) W
        have hmn1 := fun W => specMinI b (n - 1) W
        go_wp2_with fail
        refine (hd1 _).mono ?_
        rintro e w1 ⟨rfl, hb1⟩
        have B1 : Hid (Below w.heap.size w w1) := (((Below.refl _ w).alloc (Nat.le_refl _) _).trans (hb1.mono (by simp)))
        have TB1 : Hid (SpBk w1 w.heap.size (0, 0)) := TB0.out.kept hb1
        clear hb1 TB0 hd1
        go_wp2_with fail
        refine (hd2 _).mono ?_
        rintro e w2 ⟨rfl, hb2⟩
        have B2 : Hid (Below w.heap.size w w2) := B1.out.trans (hb2.mono B1.out.size)
        have TB2 : Hid (SpBk w2 w.heap.size (0, 0)) := TB1.out.kept hb2
        clear hb2 TB1 B1 hd2
        have PP : Hid (∀ x y : Int, SpBk ((w2.setCell ⟨w.heap.size, 0, Option.none⟩ (.int .i64 x)).setCell ⟨w.heap.size, 1, Option.none⟩ (.int .i64 y)) w.heap.size (x, y) ∧ Below w.heap.size w ((w2.setCell ⟨w.heap.size, 0, Option.none⟩ (.int .i64 x)).setCell ⟨w.heap.size, 1, Option.none⟩ (.int .i64 y))) := fun x y => ⟨TB2.out.put (x, y), (B2.out.setCell (p := ⟨w.heap.size, 0, Option.none⟩) (Nat.le_refl _) _).setCell (p := ⟨w.heap.size, 1, Option.none⟩) (Nat.le_refl _) _⟩
        have t0 := TB2.out.c0
        have t1 := TB2.out.c1
        have fz := TB2.out.fz
        clear TB2 B2
        by_cases h0 : K = 0 ∧ two = true
        · obtain ⟨rfl, rfl⟩ := h0
          have HR : Hid (R = some ((maxI 0 (n - b), n - 1), decide (0 < b) && decide (0 < n))) := HI.out.trans (itmP_1 hlt2 rfl rfl)
          clear HI
          generalize maxI 0 (n - b) = mx at HR hmx1
          by_cases hb0 : 0 < b
          · have db : decide (0 < b) = true := decide_eq_true hb0
            rw [db] at HR
            go_wp2_with fail
            refine (hmx1 _).mono ?_
            rintro e w3 ⟨rfl, rfl⟩
            go_wp2
            obtain ⟨P1, BB⟩ := PP.out (mx) (n - 1)
            have p0 := P1.c0
            have p1 := P1.c1
            refine bodyPost_ret (v := .tuple #[.agg #[.int .i64 (mx), .int .i64 (n - 1)], .bool true, .bool (true && decide (0 < n))]) (by simp [results, Tryd.results37, go_sem, p0, p1]) rfl ⟨ret_itV (by rw [HR.out]; rfl), BB⟩
          · have db : decide (0 < b) = false := decide_eq_false hb0
            rw [db] at HR
            go_wp2_with fail
            refine (hmx1 _).mono ?_
            rintro e w3 ⟨rfl, rfl⟩
            go_wp2
            obtain ⟨P1, BB⟩ := PP.out (mx) (n - 1)
            have p0 := P1.c0
            have p1 := P1.c1
            refine bodyPost_ret (v := .tuple #[.agg #[.int .i64 (mx), .int .i64 (n - 1)], .bool true, .bool (false && decide (0 < n))]) (by simp [results, Tryd.results37, go_sem, p0, p1]) rfl ⟨ret_itV (by rw [HR.out]; rfl), BB⟩
        · have hw1 : ¬ (K = 0 ∧ two = true) := h0
          have dk : (decide ((K : Int) = 0) && two) = false := by
            cases two with
            | false => simp
            | true => simp; intro e; exact h0 ⟨by omega, rfl⟩
          by_cases h2 : (one = true ∧ two = true) ∧ a ≤ b
          · obtain ⟨⟨rfl, rfl⟩, hab⟩ := h2
            have hK0 : ¬ K = 0 := fun e => h0 ⟨e, rfl⟩
            have dk0 : ((K : Int) == 0) = false := by simp; omega
            have dab : decide (a ≤ b) = true := decide_eq_true hab
            have HR : Hid (R = some ((a, minI b (n - 1)), decide (a < n))) := HI.out.trans (itmP_2 hlt2 hw1 rfl rfl hab)
            clear HI
            generalize minI b (n - 1) = mn at HR hmn1
            go_wp2_with fail
            refine (hmn1 _).mono ?_
            rintro e w3 ⟨rfl, rfl⟩
            go_wp2
            obtain ⟨P1, BB⟩ := PP.out (a) (mn)
            have p0 := P1.c0
            have p1 := P1.c1
            refine bodyPost_ret (v := .tuple #[.agg #[.int .i64 (a), .int .i64 (mn)], .bool true, .bool (decide (a < n))]) (by simp [results, Tryd.results37, go_sem, p0, p1]) rfl ⟨ret_itV (by rw [HR.out]; rfl), BB⟩
          · have hw2 : ¬ ((one = true ∧ two = true) ∧ a ≤ b) := h2
            by_cases hK0 : K = 0
            · have dk0 : ((K : Int) == 0) = true := by simp; omega
              obtain rfl : two = false := by cases two with | false => rfl | true => exact absurd ⟨hK0, rfl⟩ h0
              by_cases hz : K + 1 = s.size
              · have dz : ((K : Int) + 1 == (s.size : Int)) = true := by rw [← hz]; simp
                cases one with
                | true =>
                  have HR : Hid (R = some ((a, n - 1), decide (a < n))) := HI.out.trans (itmP_3 hlt2 hw1 hw2 rfl hz)
                  clear HI
                  go_wp2
                  obtain ⟨P1, BB⟩ := PP.out (a) (n - 1)
                  have p0 := P1.c0
                  have p1 := P1.c1
                  refine bodyPost_ret (v := .tuple #[.agg #[.int .i64 (a), .int .i64 (n - 1)], .bool true, .bool (decide (a < n))]) (by simp [results, Tryd.results37, go_sem, p0, p1]) rfl ⟨ret_itV (by rw [HR.out]; rfl), BB⟩
                | false =>
                  have HR : Hid (R = none) := HI.out.trans (itmP_4 hlt2 hw1 hw2 (fun h => by cases h.1))
                  clear HI
                  go_wp2
                  obtain ⟨P1, BB⟩ := PP.out 0 0
                  have p0 := P1.c0
                  have p1 := P1.c1
                  refine bodyPost_ret (v := .tuple #[.agg #[.int .i64 0, .int .i64 0], .bool false, .bool false]) (by simp [results, Tryd.results37, go_sem, p0, p1]) rfl ⟨ret_itV (by rw [HR.out]; rfl), BB⟩
              · have dz : ((K : Int) + 1 == (s.size : Int)) = false := by simp; omega
                have HR : Hid (R = none) := HI.out.trans (itmP_4 hlt2 hw1 hw2 (fun h => hz h.2))
                clear HI
                cases one with
                | true =>
                  go_wp2
                  obtain ⟨P1, BB⟩ := PP.out 0 0
                  have p0 := P1.c0
                  have p1 := P1.c1
                  refine bodyPost_ret (v := .tuple #[.agg #[.int .i64 0, .int .i64 0], .bool false, .bool false]) (by simp [results, Tryd.results37, go_sem, p0, p1]) rfl ⟨ret_itV (by rw [HR.out]; rfl), BB⟩
                | false =>
                  go_wp2
                  obtain ⟨P1, BB⟩ := PP.out 0 0
                  have p0 := P1.c0
                  have p1 := P1.c1
                  refine bodyPost_ret (v := .tuple #[.agg #[.int .i64 0, .int .i64 0], .bool false, .bool false]) (by simp [results, Tryd.results37, go_sem, p0, p1]) rfl ⟨ret_itV (by rw [HR.out]; rfl), BB⟩
            · have dk0 : ((K : Int) == 0) = false := by simp; omega
              cases two with
              | false =>
                by_cases hz : K + 1 = s.size
                · have dz : ((K : Int) + 1 == (s.size : Int)) = true := by rw [← hz]; simp
                  cases one with
                  | true =>
                    have HR : Hid (R = some ((a, n - 1), decide (a < n))) := HI.out.trans (itmP_3 hlt2 hw1 hw2 rfl hz)
                    clear HI
                    go_wp2
                    obtain ⟨P1, BB⟩ := PP.out (a) (n - 1)
                    have p0 := P1.c0
                    have p1 := P1.c1
                    refine bodyPost_ret (v := .tuple #[.agg #[.int .i64 (a), .int .i64 (n - 1)], .bool true, .bool (decide (a < n))]) (by simp [results, Tryd.results37, go_sem, p0, p1]) rfl ⟨ret_itV (by rw [HR.out]; rfl), BB⟩
                  | false =>
                    have HR : Hid (R = none) := HI.out.trans (itmP_4 hlt2 hw1 hw2 (fun h => by cases h.1))
                    clear HI
                    go_wp2
                    obtain ⟨P1, BB⟩ := PP.out 0 0
                    have p0 := P1.c0
                    have p1 := P1.c1
                    refine bodyPost_ret (v := .tuple #[.agg #[.int .i64 0, .int .i64 0], .bool false, .bool false]) (by simp [results, Tryd.results37, go_sem, p0, p1]) rfl ⟨ret_itV (by rw [HR.out]; rfl), BB⟩
                · have dz : ((K : Int) + 1 == (s.size : Int)) = false := by simp; omega
                  have HR : Hid (R = none) := HI.out.trans (itmP_4 hlt2 hw1 hw2 (fun h => hz h.2))
                  clear HI
                  cases one with
                  | true =>
                    go_wp2
                    obtain ⟨P1, BB⟩ := PP.out 0 0
                    have p0 := P1.c0
                    have p1 := P1.c1
                    refine bodyPost_ret (v := .tuple #[.agg #[.int .i64 0, .int .i64 0], .bool false, .bool false]) (by simp [results, Tryd.results37, go_sem, p0, p1]) rfl ⟨ret_itV (by rw [HR.out]; rfl), BB⟩
                  | false =>
                    go_wp2
                    obtain ⟨P1, BB⟩ := PP.out 0 0
                    have p0 := P1.c0
                    have p1 := P1.c1
                    refine bodyPost_ret (v := .tuple #[.agg #[.int .i64 0, .int .i64 0], .bool false, .bool false]) (by simp [results, Tryd.results37, go_sem, p0, p1]) rfl ⟨ret_itV (by rw [HR.out]; rfl), BB⟩
              | true =>
                by_cases hab : a ≤ b
                · have dab : decide (a ≤ b) = true := decide_eq_true hab
                  have h1f : one = false := by cases one with | false => rfl | true => exact absurd ⟨⟨rfl, rfl⟩, hab⟩ h2
                  subst h1f
                  have HR : Hid (R = none) := HI.out.trans (itmP_4 hlt2 hw1 hw2 (fun h => by cases h.1))
                  clear HI
                  go_wp2
                  obtain ⟨P1, BB⟩ := PP.out 0 0
                  have p0 := P1.c0
                  have p1 := P1.c1
                  refine bodyPost_ret (v := .tuple #[.agg #[.int .i64 0, .int .i64 0], .bool false, .bool false]) (by simp [results, Tryd.results37, go_sem, p0, p1]) rfl ⟨ret_itV (by rw [HR.out]; rfl), BB⟩
                · have dab : decide (a ≤ b) = false := decide_eq_false hab
                  by_cases hz : K + 1 = s.size
                  · have dz : ((K : Int) + 1 == (s.size : Int)) = true := by rw [← hz]; simp
                    cases one with
                    | true =>
                      have HR : Hid (R = some ((a, n - 1), decide (a < n))) := HI.out.trans (itmP_3 hlt2 hw1 hw2 rfl hz)
                      clear HI
                      go_wp2
                      obtain ⟨P1, BB⟩ := PP.out (a) (n - 1)
                      have p0 := P1.c0
                      have p1 := P1.c1
                      refine bodyPost_ret (v := .tuple #[.agg #[.int .i64 (a), .int .i64 (n - 1)], .bool true, .bool (decide (a < n))]) (by simp [results, Tryd.results37, go_sem, p0, p1]) rfl ⟨ret_itV (by rw [HR.out]; rfl), BB⟩
                    | false =>
                      have HR : Hid (R = none) := HI.out.trans (itmP_4 hlt2 hw1 hw2 (fun h => by cases h.1))
                      clear HI
                      go_wp2
                      obtain ⟨P1, BB⟩ := PP.out 0 0
                      have p0 := P1.c0
                      have p1 := P1.c1
                      refine bodyPost_ret (v := .tuple #[.agg #[.int .i64 0, .int .i64 0], .bool false, .bool false]) (by simp [results, Tryd.results37, go_sem, p0, p1]) rfl ⟨ret_itV (by rw [HR.out]; rfl), BB⟩
                  · have dz : ((K : Int) + 1 == (s.size : Int)) = false := by simp; omega
                    have HR : Hid (R = none) := HI.out.trans (itmP_4 hlt2 hw1 hw2 (fun h => hz h.2))
                    clear HI
                    cases one with
                    | true =>
                      go_wp2
                      obtain ⟨P1, BB⟩ := PP.out 0 0
                      have p0 := P1.c0
                      have p1 := P1.c1
                      refine bodyPost_ret (v := .tuple #[.agg #[.int .i64 0, .int .i64 0], .bool false, .bool false]) (by simp [results, Tryd.results37, go_sem, p0, p1]) rfl ⟨ret_itV (by rw [HR.out]; rfl), BB⟩
                    | false =>
                      go_wp2
                      obtain ⟨P1, BB⟩ := PP.out 0 0
                      have p0 := P1.c0
                      have p1 := P1.c1
                      refine bodyPost_ret (v := .tuple #[.agg #[.int .i64 0, .int .i64 0], .bool false, .bool false]) (by simp [results, Tryd.results37, go_sem, p0, p1]) rfl ⟨ret_itV (by rw [HR.out]; rfl), BB⟩
      · have hin2 : Hid (∀ j (h : j < s.size), j < k + 1 → ¬ s[j].toNat = 45) := fun j h hj => by
          rcases Nat.lt_or_ge j k with h' | h'
          · exact hin.out j h h'
          · have : j = k := by omega
            subst this; exact hc
        have dc : ((s[k].toNat : Int) != 45) = true := by
          have : ¬ (s[k].toNat : Int) = 45 := by omega
          simp [this]
        go_wp2
        go_round
        case rel => exact ⟨k + 1, by omega, by go_num, hin2⟩
        case measure => simp [intOf]; omega
    · have hKk : K = s.size := by have := HG.out k hk hin.out (fun h => absurd h hlt); omega
      have HR : Hid (R = none) := (by rw [HI.out]; unfold itmP; rw [if_pos hKk] : R = none)
      clear HG hin HI
      go_wp2
      refine bodyPost_ret (v := .tuple #[.agg #[.int .i64 0, .int .i64 0], .bool false, .bool false]) (by simp [results, Tryd.results37, go_sem]) rfl ⟨by rw [HR.out]; rfl, ?_⟩
      repeat (first | exact Below.refl _ _ | refine Below.alloc ?_ (by simp <;> omega) _ | refine Below.setCell ?_ (by simp <;> omega) _)
end Go.Proofs.YtamfgjgmnnnjpaaDoor

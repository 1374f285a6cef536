/-
  The program's Place.
-/
import Derived.Test.YtnnmbgenepfacaaRpO
namespace Go.Proofs.Ytnnmbgenepfacaa
open Go.RowKit Go.Sort Go.Shelf Rom
set_option linter.unusedVariables false
set_option linter.unusedSimpArgs false

attribute [local go_sem] Oper.semAt_some

/-- What Place answers. -/
def plaL (q : Int) (l : List It) (key : ByteArray) (n : Int) : List It := if shOk q l = true then (if itOk q (key, n) = true then kept q (allI key n l) else l) else []
def plaG (q : Int) (l : List It) (key : ByteArray) (n : Int) : List ByteArray := if shOk q l = true then (if itOk q (key, n) = true then goneI (allI key n l) (keepN q (allI key n l) (allI key n l).length) else []) else []
theorem two_of {W : World} {b : Nat} {x y : Value} {ty : TypeId} (h : W.heap[b]? = some (.cells #[x, y] ty (0, 0))) : TwoB W b x y :=
  ⟨by simp [World.cell?, h], by simp [World.cell?, h], by simp [World.frozen?, h], by simp [World.frozen?, h], (Array.getElem?_eq_some_iff.1 h).1⟩
theorem born_pl (w : World) (q : Int) (vs : Value) : PlAt w q vs ((((w.alloc (.cells #[.int .i64 q, vs] 34)).alloc (.cells #[.int .i64 0, .slice none 0 0] 34)).alloc (.cells #[] 9)).alloc (.cells #[.slice (some ⟨w.heap.size + 1 + 1, 0, none⟩) 0 0] 37)) (.slice (some ⟨w.heap.size + 1 + 1, 0, none⟩) 0 0) [] := by
  have h1 : (w.alloc (.cells #[.int .i64 q, vs] 34)).heap.size = w.heap.size + 1 := by simp
  have h2 : ((w.alloc (.cells #[.int .i64 q, vs] 34)).alloc (.cells #[.int .i64 0, .slice none 0 0] 34)).heap.size = w.heap.size + 1 + 1 := by simp
  have h3 : (((w.alloc (.cells #[.int .i64 q, vs] 34)).alloc (.cells #[.int .i64 0, .slice none 0 0] 34)).alloc (.cells #[] 9)).heap.size = w.heap.size + 3 := by simp
  refine ⟨?_, ?_, ?_, ?_, ?_⟩
  · have := Boxed.new (((w.alloc (.cells #[.int .i64 q, vs] 34)).alloc (.cells #[.int .i64 0, .slice none 0 0] 34)).alloc (.cells #[] 9)) 37 (.slice (some ⟨w.heap.size + 1 + 1, 0, none⟩) 0 0)
    rw [h3] at this
    exact this
  · have := OwnsE.born (E := txtE) (ty := 9) ((w.alloc (.cells #[.int .i64 q, vs] 34)).alloc (.cells #[.int .i64 0, .slice none 0 0] 34))
    rw [h2] at this
    exact (this.alloc _).low (by omega)
  · rw [Below.heap_alloc _ _ _ (by rw [h3]; omega), Below.heap_alloc _ _ _ (by rw [h2]; omega), Below.heap_alloc _ _ _ (by rw [h1]; omega)]
    exact World.alloc_heap_new w _
  · rw [Below.heap_alloc _ _ _ (by rw [h3]; omega), Below.heap_alloc _ _ _ (by rw [h2]; omega), ← h1]
    exact World.alloc_heap_new _ _
  · exact ((((Below.refl _ w).alloc (Nat.le_refl _) _).alloc (by omega) _).alloc (by omega) _).alloc (by omega) _
set_option maxRecDepth 100000 in
set_option maxHeartbeats 8000000 in
theorem implPla0 (q : Int) (v : Value) (l : List It) (key : ByteArray) (n : Int) (w : World) (h : Sls itE w v l) (hlen : l.length ≤ 1048576) (hs : ∀ x ∈ l, x.1.size ≤ maxLen) (hks : key.size ≤ maxLen) (hok : shOk q l = false) :
    Calls Try.prog 29 #[shV q v, .string key, .int .i64 n] w fun e w' => ∃ u g, e = .returned (.tuple #[shV (usdQ q l) u, g]) ∧ HasI8 w' w.heap.size u (plaL q l key n) ∧ HasX w' w.heap.size g (plaG q l key n) ∧ Below w.heap.size w w' := by
  have H0 : Hid (Sls itE w v l) := h
  obtain ⟨a, cap, rfl, _⟩ := h.itm
  have P0 := born_pl w q (.slice a l.length cap)
  have hsk := fun W (hW : Below w.heap.size w W) => implSok q (.slice a l.length cap) l W (H0.out.kept hW) hlen hs
  unfold shV at *
  unfold maxLen at hks
  clear h
  refine (callsIn_wide (n := 5)).1 ?_
  refine callsIn_of_wp_marks Try.func29 rfl trivial ?_ rfl
  simp only [Try.ntmps29, List.size_toArray, List.length_cons, List.length_nil, Nat.reduceAdd, Nat.reduceSub, Array.replicate_succ, Array.replicate_zero, List.push_toArray, List.append_toArray, List.nil_append, List.cons_append]
  refine wpIn_wide.2 ?_
  generalize hwB : (((w.alloc (.cells #[.int .i64 q, .slice a l.length cap] 34)).alloc (.cells #[.int .i64 0, .slice none 0 0] 34)).alloc (.cells #[] 9)).alloc (.cells #[.slice (some ⟨w.heap.size + 1 + 1, 0, none⟩) 0 0] 37) = wB at P0
  have x0 := (two_of P0.sh).c0
  have x1 := (two_of P0.sh).c1
  go_wp2_with fail
  refine (hsk _ P0.low).mono ?_
  rintro e w1 ⟨rfl, hb1⟩
  have P1 : Hid (PlAt w q (.slice a l.length cap) w1 (.slice (some ⟨w.heap.size + 1 + 1, 0, none⟩) 0 0) []) := P0.call hb1
  clear hb1 P0 x0 x1 hwB hsk
  have T3 := two_of P1.out.sh
  have T6 := two_of P1.out.rs
  obtain ⟨s0, s1, _, _, _⟩ := T3
  obtain ⟨r0, r1, f0, f1, rl⟩ := T6
  have g0 := P1.out.box.cell
  rw [hok]
  have HQ : Hid (usdQ q l = 0 ∧ plaL q l key n = [] ∧ plaG q l key n = []) := by
    show _ ∧ _
    unfold usdQ plaL plaG
    rw [hok]
    exact ⟨rfl, rfl, rfl⟩
  go_wp2_with fail
  refine wp_calmP ?_
  go_region_with (fail)
  all_goals
    go_wp2
    refine ⟨.tuple #[.agg #[.int .i64 0, .slice none 0 0], .slice (some ⟨w.heap.size + 1 + 1, 0, none⟩) 0 0], ?_, ⟨_, _, by rw [HQ.out.1], by rw [HQ.out.2.1]; exact .inl ⟨rfl, rfl⟩, by rw [HQ.out.2.2]; exact ((P1.out.own.two (b := w.heap.size + 1) (fun k hk e => by obtain ⟨cur, hc⟩ := P1.out.own.ty hk; subst e; exact absurd (block_ty hc P1.out.rs) (by decide)) _ _).drew).has, ?_⟩⟩
    · simp [results, Try.results29, go_sem, r0, r1]
    · have hb := (P1.out.low.setCell (p := ⟨w.heap.size + 1, 0, none⟩) (Nat.le_succ _) (.int .i64 0)).setCell (p := ⟨w.heap.size + 1, 1, none⟩) (Nat.le_succ _) (.slice none 0 0)
      exact ⟨hb.os, hb.tape, hb.output, hb.size, hb.block⟩
set_option maxRecDepth 100000 in
set_option maxHeartbeats 8000000 in
theorem implPla1 (q : Int) (v : Value) (l : List It) (key : ByteArray) (n : Int) (w : World) (h : Sls itE w v l) (hlen : l.length ≤ 1048576) (hs : ∀ x ∈ l, x.1.size ≤ maxLen) (hks : key.size ≤ maxLen) (hok : shOk q l = true) (hn1 : n < 1) :
    Calls Try.prog 29 #[shV q v, .string key, .int .i64 n] w fun e w' => ∃ u g, e = .returned (.tuple #[shV (usdQ q l) u, g]) ∧ HasI8 w' w.heap.size u (plaL q l key n) ∧ HasX w' w.heap.size g (plaG q l key n) ∧ Below w.heap.size w w' := by
  have H0 : Hid (Sls itE w v l) := h
  obtain ⟨a, cap, rfl, _⟩ := h.itm
  have P0 := born_pl w q (.slice a l.length cap)
  have hsk := fun W (hW : Below w.heap.size w W) => implSok q (.slice a l.length cap) l W (H0.out.kept hW) hlen hs
  unfold shV at *
  unfold maxLen at hks
  clear h
  refine (callsIn_wide (n := 5)).1 ?_
  refine callsIn_of_wp_marks Try.func29 rfl trivial ?_ rfl
  simp only [Try.ntmps29, List.size_toArray, List.length_cons, List.length_nil, Nat.reduceAdd, Nat.reduceSub, Array.replicate_succ, Array.replicate_zero, List.push_toArray, List.append_toArray, List.nil_append, List.cons_append]
  refine wpIn_wide.2 ?_
  generalize hwB : (((w.alloc (.cells #[.int .i64 q, .slice a l.length cap] 34)).alloc (.cells #[.int .i64 0, .slice none 0 0] 34)).alloc (.cells #[] 9)).alloc (.cells #[.slice (some ⟨w.heap.size + 1 + 1, 0, none⟩) 0 0] 37) = wB at P0
  have x0 := (two_of P0.sh).c0
  have x1 := (two_of P0.sh).c1
  go_wp2_with fail
  refine (hsk _ P0.low).mono ?_
  rintro e w1 ⟨rfl, hb1⟩
  have P1 : Hid (PlAt w q (.slice a l.length cap) w1 (.slice (some ⟨w.heap.size + 1 + 1, 0, none⟩) 0 0) []) := P0.call hb1
  clear hb1 P0 x0 x1 hwB hsk
  have T3 := two_of P1.out.sh
  have T6 := two_of P1.out.rs
  obtain ⟨s0, s1, _, _, _⟩ := T3
  obtain ⟨r0, r1, f0, f1, rl⟩ := T6
  have g0 := P1.out.box.cell
  rw [hok]
  have ho := shOk_iff.1 hok
  have hl5 := ho.len
  have hqq := ho.quo
  have HQ : Hid (usdQ q l = q ∧ plaL q l key n = l ∧ plaG q l key n = []) := by
    show _ ∧ _
    unfold usdQ plaL plaG
    rw [hok, if_pos rfl, if_pos rfl, if_pos rfl, if_neg (by rw [itOk_iff]; show ¬ (key.size ≤ 500 ∧ 1 ≤ n ∧ n ≤ q); omega), if_neg (by rw [itOk_iff]; show ¬ (key.size ≤ 500 ∧ 1 ≤ n ∧ n ≤ q); omega)]
    exact ⟨rfl, rfl, rfl⟩
  have hso := fun W (hW : Below w.heap.size w W) => implShOf q (.slice a l.length cap) l W (H0.out.kept hW) (by omega) (fun x hx => (ho.it x hx).1)
  unfold shV at hso
  have hbz : w.heap.size + 1 < w1.heap.size := rl
  have hb8 := P1.out.lt
  clear ho hok
  go_wp2_with fail
  refine wp_calmP ?_
  go_region_with (go_at_call 70; refine (hso _ (by exact ⟨P1.out.low.os, P1.out.low.tape, P1.out.low.output, P1.out.low.size, P1.out.low.block⟩)).mono ?_; rintro e w2 ⟨u2, rfl, ho2, hb2⟩; have P2 : Hid (PlAt w q (.slice a l.length cap) w2 (.slice (some ⟨w.heap.size + 1 + 1, 0, none⟩) 0 0) []) := P1.out.call (by exact ⟨hb2.os, hb2.tape, hb2.output, hb2.size, hb2.block⟩); obtain ⟨q0, q1, e0, e1, _⟩ := two_of P2.out.rs; have h0 := P2.out.box.cell; have HO2 : Hid (OwnsI8 w2 (w.heap.size + 1 + 1) u2 l) := ho2.low (by exact hbz); obtain ⟨a2, c2, rfl, _⟩ := ho2.form; clear hb2 ho2)
  all_goals
    have HNE : Hid (∀ k, (Value.slice a2 l.length c2).ownBlock = some k → k ≠ w.heap.size + 1) := (show ∀ _, _ from fun k hk => by have := HO2.out.from k hk; omega)
    go_wp2
    refine ⟨.tuple #[.agg #[.int .i64 q, .slice a2 l.length c2], .slice (some ⟨w.heap.size + 1 + 1, 0, none⟩) 0 0], ?_, ⟨_, _, by rw [HQ.out.1], by rw [HQ.out.2.1]; exact ((HO2.out.two HNE.out _ _).low (by omega)).has, by rw [HQ.out.2.2]; exact (P2.out.own.two (b := w.heap.size + 1) (fun k hk e => by obtain ⟨cur, hc⟩ := P2.out.own.ty hk; subst e; exact absurd (block_ty hc P2.out.rs) (by decide)) _ _).has, (P2.out.low.setCell (p := ⟨w.heap.size + 1, 0, none⟩) (Nat.le_succ _) _).setCell (p := ⟨w.heap.size + 1, 1, none⟩) (Nat.le_succ _) _⟩⟩
    simp [results, Try.results29, go_sem, q0, q1]
set_option maxRecDepth 100000 in
set_option maxHeartbeats 8000000 in
theorem implPla2 (q : Int) (v : Value) (l : List It) (key : ByteArray) (n : Int) (w : World) (h : Sls itE w v l) (hlen : l.length ≤ 1048576) (hs : ∀ x ∈ l, x.1.size ≤ maxLen) (hks : key.size ≤ maxLen) (hok : shOk q l = true) (hn1 : ¬ n < 1) (hn2 : q < n) :
    Calls Try.prog 29 #[shV q v, .string key, .int .i64 n] w fun e w' => ∃ u g, e = .returned (.tuple #[shV (usdQ q l) u, g]) ∧ HasI8 w' w.heap.size u (plaL q l key n) ∧ HasX w' w.heap.size g (plaG q l key n) ∧ Below w.heap.size w w' := by
  have H0 : Hid (Sls itE w v l) := h
  obtain ⟨a, cap, rfl, _⟩ := h.itm
  have P0 := born_pl w q (.slice a l.length cap)
  have hsk := fun W (hW : Below w.heap.size w W) => implSok q (.slice a l.length cap) l W (H0.out.kept hW) hlen hs
  unfold shV at *
  unfold maxLen at hks
  clear h
  refine (callsIn_wide (n := 5)).1 ?_
  refine callsIn_of_wp_marks Try.func29 rfl trivial ?_ rfl
  simp only [Try.ntmps29, List.size_toArray, List.length_cons, List.length_nil, Nat.reduceAdd, Nat.reduceSub, Array.replicate_succ, Array.replicate_zero, List.push_toArray, List.append_toArray, List.nil_append, List.cons_append]
  refine wpIn_wide.2 ?_
  generalize hwB : (((w.alloc (.cells #[.int .i64 q, .slice a l.length cap] 34)).alloc (.cells #[.int .i64 0, .slice none 0 0] 34)).alloc (.cells #[] 9)).alloc (.cells #[.slice (some ⟨w.heap.size + 1 + 1, 0, none⟩) 0 0] 37) = wB at P0
  have x0 := (two_of P0.sh).c0
  have x1 := (two_of P0.sh).c1
  go_wp2_with fail
  refine (hsk _ P0.low).mono ?_
  rintro e w1 ⟨rfl, hb1⟩
  have P1 : Hid (PlAt w q (.slice a l.length cap) w1 (.slice (some ⟨w.heap.size + 1 + 1, 0, none⟩) 0 0) []) := P0.call hb1
  clear hb1 P0 x0 x1 hwB hsk
  have T3 := two_of P1.out.sh
  have T6 := two_of P1.out.rs
  obtain ⟨s0, s1, _, _, _⟩ := T3
  obtain ⟨r0, r1, f0, f1, rl⟩ := T6
  have g0 := P1.out.box.cell
  rw [hok]
  have ho := shOk_iff.1 hok
  have hl5 := ho.len
  have hqq := ho.quo
  have HQ : Hid (usdQ q l = q ∧ plaL q l key n = l ∧ plaG q l key n = []) := by
    show _ ∧ _
    unfold usdQ plaL plaG
    rw [hok, if_pos rfl, if_pos rfl, if_pos rfl, if_neg (by rw [itOk_iff]; show ¬ (key.size ≤ 500 ∧ 1 ≤ n ∧ n ≤ q); omega), if_neg (by rw [itOk_iff]; show ¬ (key.size ≤ 500 ∧ 1 ≤ n ∧ n ≤ q); omega)]
    exact ⟨rfl, rfl, rfl⟩
  have hso := fun W (hW : Below w.heap.size w W) => implShOf q (.slice a l.length cap) l W (H0.out.kept hW) (by omega) (fun x hx => (ho.it x hx).1)
  unfold shV at hso
  have hbz : w.heap.size + 1 < w1.heap.size := rl
  have hb8 := P1.out.lt
  clear ho hok
  go_wp2_with fail
  refine wp_calmP ?_
  go_region_with (go_at_call 70; refine (hso _ (by exact ⟨P1.out.low.os, P1.out.low.tape, P1.out.low.output, P1.out.low.size, P1.out.low.block⟩)).mono ?_; rintro e w2 ⟨u2, rfl, ho2, hb2⟩; have P2 : Hid (PlAt w q (.slice a l.length cap) w2 (.slice (some ⟨w.heap.size + 1 + 1, 0, none⟩) 0 0) []) := P1.out.call (by exact ⟨hb2.os, hb2.tape, hb2.output, hb2.size, hb2.block⟩); obtain ⟨q0, q1, e0, e1, _⟩ := two_of P2.out.rs; have h0 := P2.out.box.cell; have HO2 : Hid (OwnsI8 w2 (w.heap.size + 1 + 1) u2 l) := ho2.low (by exact hbz); obtain ⟨a2, c2, rfl, _⟩ := ho2.form; clear hb2 ho2)
  all_goals
    have HNE : Hid (∀ k, (Value.slice a2 l.length c2).ownBlock = some k → k ≠ w.heap.size + 1) := (show ∀ _, _ from fun k hk => by have := HO2.out.from k hk; omega)
    go_wp2
    refine ⟨.tuple #[.agg #[.int .i64 q, .slice a2 l.length c2], .slice (some ⟨w.heap.size + 1 + 1, 0, none⟩) 0 0], ?_, ⟨_, _, by rw [HQ.out.1], by rw [HQ.out.2.1]; exact ((HO2.out.two HNE.out _ _).low (by omega)).has, by rw [HQ.out.2.2]; exact (P2.out.own.two (b := w.heap.size + 1) (fun k hk e => by obtain ⟨cur, hc⟩ := P2.out.own.ty hk; subst e; exact absurd (block_ty hc P2.out.rs) (by decide)) _ _).has, (P2.out.low.setCell (p := ⟨w.heap.size + 1, 0, none⟩) (Nat.le_succ _) _).setCell (p := ⟨w.heap.size + 1, 1, none⟩) (Nat.le_succ _) _⟩⟩
    simp [results, Try.results29, go_sem, q0, q1]
set_option maxRecDepth 100000 in
set_option maxHeartbeats 8000000 in
theorem implPla3 (q : Int) (v : Value) (l : List It) (key : ByteArray) (n : Int) (w : World) (h : Sls itE w v l) (hlen : l.length ≤ 1048576) (hs : ∀ x ∈ l, x.1.size ≤ maxLen) (hks : key.size ≤ maxLen) (hok : shOk q l = true) (hn1 : ¬ n < 1) (hn2 : ¬ q < n) (hk5 : ¬ key.size ≤ 500) :
    Calls Try.prog 29 #[shV q v, .string key, .int .i64 n] w fun e w' => ∃ u g, e = .returned (.tuple #[shV (usdQ q l) u, g]) ∧ HasI8 w' w.heap.size u (plaL q l key n) ∧ HasX w' w.heap.size g (plaG q l key n) ∧ Below w.heap.size w w' := by
  have H0 : Hid (Sls itE w v l) := h
  obtain ⟨a, cap, rfl, _⟩ := h.itm
  have P0 := born_pl w q (.slice a l.length cap)
  have hsk := fun W (hW : Below w.heap.size w W) => implSok q (.slice a l.length cap) l W (H0.out.kept hW) hlen hs
  unfold shV at *
  unfold maxLen at hks
  clear h
  refine (callsIn_wide (n := 5)).1 ?_
  refine callsIn_of_wp_marks Try.func29 rfl trivial ?_ rfl
  simp only [Try.ntmps29, List.size_toArray, List.length_cons, List.length_nil, Nat.reduceAdd, Nat.reduceSub, Array.replicate_succ, Array.replicate_zero, List.push_toArray, List.append_toArray, List.nil_append, List.cons_append]
  refine wpIn_wide.2 ?_
  generalize hwB : (((w.alloc (.cells #[.int .i64 q, .slice a l.length cap] 34)).alloc (.cells #[.int .i64 0, .slice none 0 0] 34)).alloc (.cells #[] 9)).alloc (.cells #[.slice (some ⟨w.heap.size + 1 + 1, 0, none⟩) 0 0] 37) = wB at P0
  have x0 := (two_of P0.sh).c0
  have x1 := (two_of P0.sh).c1
  go_wp2_with fail
  refine (hsk _ P0.low).mono ?_
  rintro e w1 ⟨rfl, hb1⟩
  have P1 : Hid (PlAt w q (.slice a l.length cap) w1 (.slice (some ⟨w.heap.size + 1 + 1, 0, none⟩) 0 0) []) := P0.call hb1
  clear hb1 P0 x0 x1 hwB hsk
  have T3 := two_of P1.out.sh
  have T6 := two_of P1.out.rs
  obtain ⟨s0, s1, _, _, _⟩ := T3
  obtain ⟨r0, r1, f0, f1, rl⟩ := T6
  have g0 := P1.out.box.cell
  rw [hok]
  have ho := shOk_iff.1 hok
  have hl5 := ho.len
  have hqq := ho.quo
  have hk6 : 500 < (key.size : Int) := by omega
  have HQ : Hid (usdQ q l = q ∧ plaL q l key n = l ∧ plaG q l key n = []) := by
    show _ ∧ _
    unfold usdQ plaL plaG
    rw [hok, if_pos rfl, if_pos rfl, if_pos rfl, if_neg (by rw [itOk_iff]; show ¬ (key.size ≤ 500 ∧ 1 ≤ n ∧ n ≤ q); omega), if_neg (by rw [itOk_iff]; show ¬ (key.size ≤ 500 ∧ 1 ≤ n ∧ n ≤ q); omega)]
    exact ⟨rfl, rfl, rfl⟩
  have hso := fun W (hW : Below w.heap.size w W) => implShOf q (.slice a l.length cap) l W (H0.out.kept hW) (by omega) (fun x hx => (ho.it x hx).1)
  unfold shV at hso
  have hbz : w.heap.size + 1 < w1.heap.size := rl
  have hb8 := P1.out.lt
  clear ho hok
  go_wp2_with fail
  refine wp_calmP ?_
  go_region_with (go_at_call 70; refine (hso _ (by exact ⟨P1.out.low.os, P1.out.low.tape, P1.out.low.output, P1.out.low.size, P1.out.low.block⟩)).mono ?_; rintro e w2 ⟨u2, rfl, ho2, hb2⟩; have P2 : Hid (PlAt w q (.slice a l.length cap) w2 (.slice (some ⟨w.heap.size + 1 + 1, 0, none⟩) 0 0) []) := P1.out.call (by exact ⟨hb2.os, hb2.tape, hb2.output, hb2.size, hb2.block⟩); obtain ⟨q0, q1, e0, e1, _⟩ := two_of P2.out.rs; have h0 := P2.out.box.cell; have HO2 : Hid (OwnsI8 w2 (w.heap.size + 1 + 1) u2 l) := ho2.low (by exact hbz); obtain ⟨a2, c2, rfl, _⟩ := ho2.form; clear hb2 ho2)
  all_goals
    have HNE : Hid (∀ k, (Value.slice a2 l.length c2).ownBlock = some k → k ≠ w.heap.size + 1) := (show ∀ _, _ from fun k hk => by have := HO2.out.from k hk; omega)
    go_wp2
    refine ⟨.tuple #[.agg #[.int .i64 q, .slice a2 l.length c2], .slice (some ⟨w.heap.size + 1 + 1, 0, none⟩) 0 0], ?_, ⟨_, _, by rw [HQ.out.1], by rw [HQ.out.2.1]; exact ((HO2.out.two HNE.out _ _).low (by omega)).has, by rw [HQ.out.2.2]; exact (P2.out.own.two (b := w.heap.size + 1) (fun k hk e => by obtain ⟨cur, hc⟩ := P2.out.own.ty hk; subst e; exact absurd (block_ty hc P2.out.rs) (by decide)) _ _).has, (P2.out.low.setCell (p := ⟨w.heap.size + 1, 0, none⟩) (Nat.le_succ _) _).setCell (p := ⟨w.heap.size + 1, 1, none⟩) (Nat.le_succ _) _⟩⟩
    simp [results, Try.results29, go_sem, q0, q1]
end Go.Proofs.Ytnnmbgenepfacaa

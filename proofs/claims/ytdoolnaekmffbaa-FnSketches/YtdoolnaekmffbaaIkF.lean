/-
  The program's new sketches, and the marks of a key.
-/
import Derived.Test.YtdoolnaekmffbaaIkX
import Derived.Test.YtdoolnaekmffbaaIwH
import Derived.Test.YtdoolnaekmffbaaSkC
namespace Go.Proofs.Ytdoolnaekmffbaa
open Go.RowKit Go.Sort Ow Sk
set_option linter.unusedVariables false
set_option linter.unusedSimpArgs false

set_option maxRecDepth 100000 in
set_option maxHeartbeats 1000000 in
theorem implNew (n : Int) (w : World) :
    Calls Try.prog 18 #[.int .i64 n] w fun e w' => ∃ u, e = .returned (.tuple #[skV (if szOk n = true then n else 0) u, .bool (szOk n)]) ∧ HasN w' w.heap.size u [] ∧ Below w.heap.size w w' := by
  have hS := fun W => implSz n W
  have hX := Bx.new w 26 #[.int .i64 0, .slice none 0 0]
  have B0 : Hid (Below w.heap.size w (w.alloc (.cells #[.int .i64 0, .slice none 0 0] 26))) := (Below.refl _ w).alloc (Nat.le_refl _) _
  have hz : (w.alloc (.cells #[.int .i64 0, .slice none 0 0] 26)).heap.size = w.heap.size + 1 := by simp
  cases hsz : szOk n with
  | false =>
    rw [hsz] at hS
    unfold skV
    go_enter Try.func18, Try.ntmps18
    generalize hwA : w.alloc (.cells #[.int .i64 0, .slice none 0 0] 26) = wA at B0 hX
    have c0 := hX.cell 0
    have c1 := hX.cell 1
    have f0 := hX.free 0
    have f1 := hX.free 1
    go_wp2_with fail
    refine (hS _).mono ?_
    rintro e w1 ⟨rfl, rfl⟩
    go_wp2
    refine bodyPost_ret (v := .tuple #[.agg #[.int .i64 0, .slice none 0 0], .bool false]) (by simp [results, Try.results18, go_sem, c0, c1]) rfl ⟨_, rfl, .inl ⟨rfl, rfl⟩, (B0.out.setCell (Nat.le_refl _) _).setCell (Nat.le_refl _) _⟩
  | true =>
    rw [hsz] at hS
    unfold skV
    go_enter Try.func18, Try.ntmps18
    generalize hwA : w.alloc (.cells #[.int .i64 0, .slice none 0 0] 26) = wA at B0 hX hz
    have O1 : Hid (OwnsN (wA.alloc (.cells #[] 2)) wA.heap.size (.slice (some ⟨wA.heap.size, 0, none⟩) 0 0) []) := (show Hid _ from OwnsE.born (E := intE) (ty := 2) wA)
    have hY := hX.alloc (.cells #[] 2)
    have B1 : Hid (Below w.heap.size w (wA.alloc (.cells #[] 2))) := (show Hid _ from B0.out.alloc (by omega) _)
    have HZ : Hid (wA.heap.size = w.heap.size + 1) := hz
    generalize hwB : wA.alloc (.cells #[] 2) = wB at O1 hY B1
    generalize hG : wA.heap.size = G at O1 HZ
    have c0 := hY.cell 0
    have c1 := hY.cell 1
    have f0 := hY.free 0
    have f1 := hY.free 1
    clear hz hX
    go_wp2_with fail
    refine (hS _).mono ?_
    rintro e w1 ⟨rfl, rfl⟩
    go_wp2
    refine bodyPost_ret (v := .tuple #[.agg #[.int .i64 n, .slice (some ⟨G, 0, none⟩) 0 0], .bool true]) (by simp [results, Try.results18, go_sem, c0, c1]) rfl ⟨_, rfl, (((O1.out.other _ _ (fun k hk => by simp [Value.ownBlock] at hk; have := HZ.out; show k ≠ w.heap.size; omega)).other _ _ (fun k hk => by simp [Value.ownBlock] at hk; have := HZ.out; show k ≠ w.heap.size; omega)).low (by have := HZ.out; omega)).has, (B1.out.setCell (Nat.le_refl _) _).setCell (Nat.le_refl _) _⟩

/-- The key with so many dots behind it, as the program makes it. -/
def txD (key : ByteArray) (m : Nat) : ByteArray := if m = 0 then key else if m = 1 then key ++ ⟨#[46]⟩ else key ++ ⟨#[46, 46]⟩
theorem txD_list (key : ByteArray) {m : Nat} (h : m < 3) : (txD key m).data.toList = key.data.toList ++ dots m := by
  rcases (by omega : m = 0 ∨ m = 1 ∨ m = 2) with rfl | rfl | rfl
  · simp [txD, dots]
  · simp [txD, dots]
  · simp [txD, dots]
theorem txD_size (key : ByteArray) (m : Nat) : (txD key m).size ≤ key.size + 2 := by
  unfold txD
  split
  · omega
  · split
    · rw [ByteArray.size_append]; show key.size + 1 ≤ _; omega
    · rw [ByteArray.size_append]; show key.size + 2 ≤ _; omega
/-- The row of flags, and the three texts. -/
structure Tm (w W : World) (key : ByteArray) (f : Nat → Bool) : Prop where
  low : Below w.heap.size w W
  bx : Bx W w.heap.size 61 (flgs f)
  tx : Bx W (w.heap.size + 1) 9 #[.string key, .string (key ++ ⟨#[46]⟩), .string (key ++ ⟨#[46, 46]⟩)]
theorem Tm.kept {w W W' : World} {key : ByteArray} {f : Nat → Bool} (h : Tm w W key f) (hb : Below W.heap.size W W') : Tm w W' key f := ⟨pastK h.low hb, h.bx.kept hb, h.tx.kept hb⟩
theorem Tm.put {w W : World} {key : ByteArray} {f : Nat → Bool} (h : Tm w W key f) {i : Nat} (hi : i < 512) (b : Bool) : Tm w (W.setCell ⟨w.heap.size, i, none⟩ (.bool b)) key (fun j => if j = i then b else f j) :=
  ⟨h.low.setCell (Nat.le_refl _) _, by have := h.bx.put i (.bool b); rw [flgs_set f hi] at this; exact this, h.tx.other _ _ (by omega)⟩
theorem Tm.text {w W : World} {key : ByteArray} {f : Nat → Bool} (h : Tm w W key f) {m : Nat} (hm : m < 3) : W.cell? ⟨w.heap.size + 1, m, none⟩ = some (.string (txD key m)) := by
  rw [h.tx.cell]
  rcases (by omega : m = 0 ∨ m = 1 ∨ m = 2) with rfl | rfl | rfl <;> rfl
theorem Tm.new (w : World) (key : ByteArray) : Tm w (((w.alloc (.cells (flgs fun _ => false) 61)).setRow w.heap.size (flgs fun _ => false)).alloc (.cells #[.string key, .string (key ++ ⟨#[46]⟩), .string (key ++ ⟨#[46, 46]⟩)] 9)) key (fun _ => false) := by
  have e : ((w.alloc (.cells (flgs fun _ => false) 61)).setRow w.heap.size (flgs fun _ => false)).heap.size = w.heap.size + 1 := by simp
  have h2 := Bx.new ((w.alloc (.cells (flgs fun _ => false) 61)).setRow w.heap.size (flgs fun _ => false)) 9 #[.string key, .string (key ++ ⟨#[46]⟩), .string (key ++ ⟨#[46, 46]⟩)]
  rw [e] at h2
  exact ⟨(below_setRow ((Below.refl _ w).alloc (Nat.le_refl _) _) (Nat.le_refl _) _).alloc (by rw [e]; omega) _, ((Bx.new w 61 (flgs fun _ => false)).row _).alloc _, h2⟩
theorem mks_on {n : Int} (hn : 8 ≤ n ∧ n ≤ 512) (key : ByteArray) : onL (inF ((List.range 3).map (Sk.mkN n key))) 512 = mksL n key 3 :=
  onL_in (mksL_ris n key 3) (fun y => by rw [mksL_mem, List.mem_map]; exact ⟨fun ⟨j, hj, e⟩ => ⟨j, List.mem_range.2 hj, e.symm⟩, fun ⟨j, hj, e⟩ => ⟨j, List.mem_range.1 hj, e.symm⟩⟩)
    (fun x hx => by obtain ⟨j, _, rfl⟩ := List.mem_map.1 hx; have := mkN_in hn key j; omega)
set_option maxRecDepth 100000 in
set_option maxHeartbeats 2000000 in
theorem implMks (n : Int) (key : ByteArray) (w : World) (hk : key.size ≤ 1048576) :
    Calls Try.prog 25 #[.int .i64 n, .string key] w fun e w' => ∃ g c, e = .returned (.slice (some ⟨g, 0, none⟩) (mksV n key).length c) ∧ HasN w' w.heap.size (.slice (some ⟨g, 0, none⟩) (mksV n key).length c) (mksV n key) ∧ Below w.heap.size w w' := by
  have hS := fun W => implSz n W
  cases hsz : szOk n with
  | false =>
    have B0 : Hid (Below w.heap.size w (w.alloc (.cells #[] 2))) := (Below.refl _ w).alloc (Nat.le_refl _) _
    have O0 : Hid (OwnsN (w.alloc (.cells #[] 2)) w.heap.size (.slice (some ⟨w.heap.size, 0, none⟩) 0 0) []) := (show Hid _ from OwnsE.born (E := intE) (ty := 2) w)
    have HR : Hid (mksV n key = []) := by show _ = _; unfold mksV; rw [hsz]; rfl
    rw [hsz] at hS
    go_enter Try.func25, Try.ntmps25
    go_wp2_with fail
    refine (hS _).mono ?_
    rintro e w1 ⟨rfl, rfl⟩
    go_wp2
    go_ret
    exact ⟨_, _, by rw [HR.out]; rfl, by rw [HR.out]; exact O0.out.has, B0.out⟩
  | true =>
    have HR : Hid (mksV n key = mksL n key 3) := by show _ = _; unfold mksV; rw [hsz]; rfl
    have hn : 8 ≤ n ∧ n ≤ 512 := of_decide_eq_true hsz
    have HO : Hid (onL (inF ((List.range 3).map (Sk.mkN n key))) 512 = mksL n key 3) := mks_on hn key
    have T0 : Hid (Tm w (((w.alloc (.cells (flgs fun _ => false) 61)).setRow w.heap.size (flgs fun _ => false)).alloc (.cells #[.string key, .string (key ++ ⟨#[46]⟩), .string (key ++ ⟨#[46, 46]⟩)] 9)) key (inF ((List.range 0).map (Sk.mkN n key)))) := (show Tm w _ key _ from Tm.new w key)
    have X1 : Hid (Bx (w.alloc (.cells (flgs fun _ => false) 61)) w.heap.size 61 (flgs fun _ => false)) := (show Hid _ from Bx.new w _ _)
    rw [hsz] at hS
    clear hsz
    go_enter Try.func25, Try.ntmps25
    go_wp2_with fail
    refine (hS _).mono ?_
    rintro e w1 ⟨rfl, rfl⟩
    go_wp2_with (first
      | (refine wpList_buildA rfl 61 rfl (some 12) rfl (flgs fun _ => false) builtBR ?_)
      | (refine wpList_allocA rfl 61 rfl (some 5) rfl w.heap.size rfl (flgs fun _ => false) zeroBR ?_)
      | (refine wpList_store_row rfl 61 (.tmp 5) (.tmp 12) rfl w.heap.size (flgs fun _ => false) rfl rfl 61 (flgs fun _ => false) X1.out (sizeBR _) rfl (flgs_one _) ?_))
    generalize ((w.alloc (.cells (flgs fun _ => false) 61)).setRow w.heap.size (flgs fun _ => false)).alloc (.cells #[.string key, .string (key ++ ⟨#[46]⟩), .string (key ++ ⟨#[46, 46]⟩)] 9) = W0 at T0 ⊢
    clear X1
    go_loopw [20] (fun i wr => ∃ m : Nat, m ≤ 3 ∧ i = .int .i64 m ∧ Hid (Tm w wr key (inF ((List.range m).map (Sk.mkN n key))))) (fun i _ => 3 - (intOf i).toNat)
    case atStart => exact ⟨0, Nat.zero_le _, rfl, T0⟩
    case round =>
      clear T0
      obtain ⟨m, hm, rfl, hT⟩ := hrel
      by_cases hlt : m < 3
      · have hmi : (m : Int) < 3 := by omega
        have c1 := hT.out.text hlt
        have hh := fun W => implHsh (txD key m) W (by have := txD_size key m; omega)
        have hmk : Int.tmod (hshL (txD key m).data.toList : Int) n = Sk.mkN n key m := by
          rw [Int.tmod_eq_emod_of_nonneg (by omega), txD_list key hlt]
          rfl
        have hzi := mkN_in hn key m
        have HN : Hid ((List.range (m + 1)).map (Sk.mkN n key) = (List.range m).map (Sk.mkN n key) ++ [Sk.mkN n key m]) := by show _ = _; rw [List.range_succ, List.map_append]; rfl
        generalize hshL (txD key m).data.toList = H at hh hmk
        generalize txD key m = K at hh c1
        have hn0 : ¬ n = 0 := by omega
        generalize Sk.mkN n key m = z at hmk hzi HN
        obtain ⟨zz, rfl⟩ : ∃ zz : Nat, z = (zz : Int) := ⟨z.toNat, by omega⟩
        have hz5 : zz < 512 := by omega
        have hz5i : (zz : Int) < 512 := by omega
        go_wp2_with fail
        refine (hh _).mono ?_
        rintro e w2 ⟨rfl, hb2⟩
        have T2 : Hid (Tm w w2 key (inF ((List.range m).map (Sk.mkN n key)))) := (show Tm w _ key _ from hT.out.kept hb2)
        have T3 : Hid (Tm w (w2.setCell ⟨w.heap.size, zz, none⟩ (.bool true)) key (inF ((List.range (m + 1)).map (Sk.mkN n key)))) := by
          have := T2.out.put hz5 true
          rw [inF_snoc] at this
          show Tm w _ key _
          rw [HN.out]
          exact this
        have d1 := T2.out.bx.cell zz
        rw [flgs_at _ hz5] at d1
        have d2 := T2.out.bx.free zz
        clear hb2 hT T2 hh c1
        go_wp2
        go_roundw
        case rel => exact ⟨m + 1, by omega, by go_num, T3⟩
        case measure => simp [intOf]; omega
      · obtain rfl : m = 3 := by omega
        have hN := fun W => implNms (inF ((List.range 3).map (Sk.mkN n key))) W
        rw [HO.out] at hN
        generalize inF ((List.range 3).map (Sk.mkN n key)) = f at hN hT
        go_wp2_with (refine wpList_load_row rfl 61 (.tmp 5) rfl w.heap.size rfl 61 (flgs f) (0, 0) _ hT.out.bx Try.underlying61 rfl (sizeBR _) ?_)
        refine (hN _).mono ?_
        rintro e w3 ⟨g, c, rfl, ho, hb⟩
        go_wp2
        go_ret
        exact ⟨g, c, by rw [HR.out]; rfl, by rw [HR.out]; exact ho.low hT.out.low.size, pastK hT.out.low hb⟩
end Go.Proofs.Ytdoolnaekmffbaa

/-
  The library's BinarySearch of numbers.
  Copying elements of several cells; what inserting one element makes.
  'copy' into the middle of a row.
  The library's Insert of one message ahead of others.
  The library's Insert of one number ahead of others.
  A replica whose Tells are about to go, beside blocks that stay.
-/
import Derived.Test.YtdkhdjickkcaiaaGreatRVS
import Derived.Test.YtdkhdjickkcaiaaGreatRV24
import Derived.Test.YtdkhdjickkcaiaaGreatRV26
import Derived.Laws.CopyRow
import Derived.Shelf.Spec.SlicesInsertGrow
import Derived.Laws.CopyOwn
import Derived.Test.YtdkhdjickkcaiaaGreatRV25
set_option linter.unusedVariables false
set_option linter.unusedSimpArgs false
set_option maxRecDepth 100000
set_option maxHeartbeats 64000000
namespace Go.Proofs.YtdkhdjickkcaiaaGreat.Rl
open Go.RowKit Go.Sort Go.Shelf

theorem implSNan (a : Int) (w : World) : Calls Tryz.prog 169 #[.int .i64 a] w fun e w' => e = .returned (.bool false) ∧ w = w' := by
 go_enter Tryz.func169, Tryz.ntmps169
 go_wp2
 go_ret
 exact ⟨by simp, rfl⟩
theorem implLess64 (x y : Int) (w : World) : Calls Tryz.prog 168 #[.int .i64 x, .int .i64 y] w fun e w' => e = .returned (.bool (decide (x < y))) ∧ w = w' := by
 go_enter Tryz.func168, Tryz.ntmps168
 go_wp2_with (go_at_call 172; refine (implNan64 _ _).mono ?_; rintro e w1 ⟨rfl, rfl⟩)
 go_ret
 exact ⟨rfl, rfl⟩
theorem implBsN (g cap : Nat) (l : List Int) (z : Int) (k0 : Nat) (D0 : Bool) (w : World) (hcl : ∀ j (hj : j < l.length), w.cell? ⟨g, j, none⟩ = some (.int .i64 l[j])) (hl : l.length ≤ 1000) (hc : l.length ≤ cap) (hr : l.Pairwise (· < ·)) (hs : SrcAt l z k0 D0) :
  Calls Tryz.prog 155 #[.slice (some ⟨g, 0, none⟩) l.length cap, .int .i64 z] w fun e w' => e = .returned (.tuple #[.int .i64 (k0 : Int), .bool D0]) ∧ w = w' := by
 have HC : Hid (∀ j (hj : j < l.length), w.cell? ⟨g, j, none⟩ = some (.int .i64 l[j])) := hH_ (hcl)
 have MONO : Hid (∀ i j (hi : i < l.length) (hj : j < l.length), i < j → l[i] < l[j]) := hH_ (fun i j hi hj hij => List.pairwise_iff_getElem.1 hr i j hi hj hij)
 have HS : Hid (SrcAt l z k0 D0) := hs
 clear hcl hr hs
 go_enter Tryz.func155, Tryz.ntmps155
 go_wp2_with fail
 go_loopw [7, 8] (fun s7 s8 wr => ∃ lo hi : Nat, s7 = .int .i64 (lo : Int) ∧ s8 = .int .i64 (hi : Int) ∧ lo ≤ hi ∧ hi ≤ l.length ∧ Hid ((∀ i (h : i < l.length), i < lo → l[i] < z) ∧ (∀ i (h : i < l.length), hi ≤ i → z ≤ l[i])) ∧ w = wr) (fun s7 s8 _ => ((intOf s8).toNat - (intOf s7).toNat))
 case atStart => exact ⟨0, l.length, rfl, rfl, Nat.zero_le _, Nat.le_refl _, (show _ ∧ _ from ⟨fun i _ h => absurd h (Nat.not_lt_zero _), fun i h1 h2 => by omega⟩), rfl⟩
 case round =>
  obtain ⟨lo, hi, rfl, rfl, hlh, hin, I, rfl⟩ := hrel
  by_cases hlt : lo < hi
  ·
   have hm : (lo + hi) / 2 < l.length := by omega
   have cm := HC.out _ hm
   have HY : Hid (∃ h : (lo + hi) / 2 < l.length, l[(lo + hi) / 2] = l[(lo + hi) / 2]) := (show ∃ _, _ from ⟨hm, rfl⟩)
   obtain ⟨y, hy⟩ : ∃ y, y = l[(lo + hi) / 2] := ⟨_, rfl⟩
   have HYY : Hid (∃ h : (lo + hi) / 2 < l.length, l[(lo + hi) / 2] = y) := (show ∃ _, _ from ⟨hm, hy.symm⟩)
   rw [← hy] at cm
   clear hy HY
   by_cases hyz : y < z
   ·
    go_wp2_with fail
    refine (implLess64 _ _ _).mono ?_
    rintro e w1 ⟨rfl, rfl⟩
    go_wp2_with fail
    go_roundw
    case rel => exact ⟨(lo + hi) / 2 + 1, hi, by go_num, rfl, by omega, hin, (show _ ∧ _ from ⟨fun i h hi2 => by
     obtain ⟨h1, h2⟩ := HYY.out
     by_cases e : i = (lo + hi) / 2
     ·
      subst e; rw [h2]; exact hyz
     ·
      exact Int.lt_trans (MONO.out i _ h h1 (by omega)) (by rw [h2]; exact hyz), I.out.2⟩), trivial⟩
    case measure => simp [intOf]; omega
   ·
    go_wp2_with fail
    refine (implLess64 _ _ _).mono ?_
    rintro e w1 ⟨rfl, rfl⟩
    go_wp2_with fail
    go_roundw
    case rel => exact ⟨lo, (lo + hi) / 2, rfl, by go_num, by omega, by omega, (show _ ∧ _ from ⟨I.out.1, fun i h hi2 => by
     obtain ⟨h1, h2⟩ := HYY.out
     by_cases e : i = (lo + hi) / 2
     ·
      subst e; rw [h2]; omega
     ·
      have := MONO.out _ i h1 h (by omega)
      rw [h2] at this
      omega⟩), trivial⟩
    case measure => simp [intOf]; omega
  ·
   obtain rfl : hi = lo := by omega
   have fin : ∀ D, SrcAt l z hi D → (hi = k0 ∧ D = D0) := fun D h => h.one HS.out
   by_cases hn : hi < l.length
   ·
    have cm := HC.out _ hn
    obtain ⟨y, hy⟩ : ∃ y, y = l[hi] := ⟨_, rfl⟩
    have HYY : Hid (∃ h : hi < l.length, l[hi] = y) := (show ∃ _, _ from ⟨hn, hy.symm⟩)
    rw [← hy] at cm
    clear hy
    by_cases hyz : y = z
    ·
     have hk := fin true ⟨hin, I.out.1, fun _ => by
      obtain ⟨h1, h2⟩ := HYY.out
      exact ⟨h1, by rw [h2]; exact hyz⟩, fun h => (by cases h)⟩
     have beq : (y == z) = true := by simp [hyz]
     have HKK : Hid (hi = k0 ∧ true = D0) := hH_ (hk)
     clear hk fin hyz
     go_wp2_with fail
     go_ret2
     refine ⟨?_, rfl⟩
     rw [← HKK.out.1, ← HKK.out.2]
     simp
    ·
     have hk := fin false ⟨hin, I.out.1, fun h => (by cases h), fun _ h => by
      obtain ⟨h1, h2⟩ := HYY.out
      have h3 := I.out.2 hi h1 (Nat.le_refl _)
      rw [h2] at h3 ⊢
      omega⟩
     have beq : (y == z) = false := by simp [hyz]
     have HKK : Hid (hi = k0 ∧ false = D0) := hH_ (hk)
     clear hk fin hyz
     go_wp2_with (go_at_call 169; refine (implSNan _ _).mono ?_; rintro e w1 ⟨rfl, rfl⟩)
     go_ret2
     refine ⟨?_, rfl⟩
     rw [← HKK.out.1, ← HKK.out.2]
     simp
   ·
    have hk := fin false ⟨hin, I.out.1, fun h => (by cases h), fun _ h => absurd h hn⟩
    have HKK : Hid (hi = k0 ∧ false = D0) := hH_ (hk)
    clear hk fin
    go_wp2
    go_ret2
    refine ⟨?_, rfl⟩
    rw [← HKK.out.1, ← HKK.out.2]
    simp
end Go.Proofs.YtdkhdjickkcaiaaGreat.Rl
namespace Go.Proofs.YtdkhdjickkcaiaaGreat
open Go.RowKit Go.Sort

theorem run_copy_rowK {P : Program} (w : World) (dT sT ty elem : TypeId) (K g o dLen dCap : Nat) (a : Addr) (sLen sCap : Nat) (cur : Array Value) (t : TypeId) (cs : List Value)
  (hu : P.underlying dT = some (.slice elem)) (hs : (P.info? elem).map (·.size) = some K)
  (hg : w.heap[g]? = some (.cells cur t (0, 0))) (hn : cs.length = Nat.min sLen dLen * K)
  (hsrc : ∀ j v, cs[j]? = some v → w.cell? (a.add j) = some v) (hfit : o + cs.length ≤ cur.size) (h1 : ∀ v ∈ cs, v.oneCell' = true) :
  (Builtin.copy_ #[dT, sT] ty #[.slice (some ⟨g, o, none⟩) dLen dCap, .slice (some a) sLen sCap]).run P w =
   .ok (goInt (Nat.min sLen dLen)) (w.setRow g (cur.toList.take o ++ cs ++ cur.toList.drop (o + cs.length)).toArray) := by
 have hl := run_loadCells_list (P := P) w a cs hsrc
 have hst := run_storeCells_at P g o t cs 0 cur w hg (by simpa using hfit) h1
 cases hq : P.info? elem with
 | none => simp [hq] at hs
 | some i =>
  have hi : i.size = K := by simpa [hq] using hs
  simp [Builtin.copy_, run_underlying hu, Builtin.lenOf, Builtin.firstCells, sizeOf, typeInfo, hq, hi, ← hn, hl, hst]
structure InsG {α : Type} (E : Enc α) (ty : TypeId) (w w' : World) (B : Nat) (te v : Value) (T : List α) (k : Nat) (x : α) : Prop where
 row : OwnsE E ty w' B v (T.take k ++ x :: T.drop k)
 grown : w.grownBy w' te.ownBlock
 blk : v.ownBlock = te.ownBlock ∨ ∃ n, v.ownBlock = some n ∧ w.heap.size ≤ n
open Go.RowKit Go.Sort

theorem run_copy_put {Pg : Program} (w : World) (dT sT ty elem : TypeId) (K g o dLen dCap : Nat) (a : Addr) (sLen sCap m : Nat) (P Q R cs : List Value) (t : TypeId)
  (hu : Pg.underlying dT = some (.slice elem)) (hs : (Pg.info? elem).map (·.size) = some K)
  (hg : w.heap[g]? = some (.cells (P ++ Q ++ R).toArray t (0, 0))) (hm : Nat.min sLen dLen = m) (hn : cs.length = m * K)
  (hsrc : ∀ j v, cs[j]? = some v → w.cell? (a.add j) = some v) (hP : P.length = o) (hQ : Q.length = cs.length) (h1 : ∀ v ∈ cs, v.oneCell' = true) :
  (Builtin.copy_ #[dT, sT] ty #[.slice (some ⟨g, o, none⟩) dLen dCap, .slice (some a) sLen sCap]).run Pg w = .ok (goInt m) (w.setRow g (P ++ cs ++ R).toArray) := by
 subst hm
 rw [run_copy_rowK w dT sT ty elem K g o dLen dCap a sLen sCap _ t cs hu hs hg hn hsrc (by simp; omega) h1]
 have e1 : (P ++ Q ++ R).take o = P := by rw [List.append_assoc, List.take_left' hP]
 have e2 : (P ++ Q ++ R).drop (o + cs.length) = R := by rw [List.drop_left' (by simp; omega)]
 simp only [e1, e2]
theorem row_cell {w : World} {g : Nat} {P Q R : List Value} {t : TypeId} {fz : Nat × Nat} (hg : w.heap[g]? = some (.cells (P ++ Q ++ R).toArray t fz)) (o : Nat) (hP : P.length = o) (j : Nat) (v : Value) (hj : Q[j]? = some v) : w.cell? ((⟨g, o, none⟩ : Addr).add j) = some v := by
 have hjl : j < Q.length := (List.getElem?_eq_some_iff.1 hj).1
 rw [addr_add]
 simp only [World.cell?, hg]
 rw [List.getElem?_toArray, List.append_assoc, List.getElem?_append_right (by omega), List.getElem?_append_left (by omega), show o + j - P.length = j by omega]
 exact hj
end Go.Proofs.YtdkhdjickkcaiaaGreat
namespace Go.Proofs.YtdkhdjickkcaiaaGreat.Rl
open Go.RowKit Go.Sort Go.Shelf

theorem insRoomM (gt g n c k : Nat) (A D Z vs : List Value) (w : World) (hk : k < n) (hn1 : n ≤ 1000) (hroom : n + 1 ≤ c) (hcm : c ≤ 9223372036854775807) (hgg : g ≠ gt)
  (hgt : w.heap[gt]? = some (.cells (A ++ D ++ Z).toArray 30 (0, 0))) (hg : w.heap[g]? = some (.cells vs.toArray 30 (0, 0))) (hA : A.length = k * 7) (hD : D.length = (n - k) * 7) (hZ : Z.length = (c - n) * 7) (hvl : vs.length = 7)
  (h1D : ∀ v ∈ D, v.oneCell' = true) (h1v : ∀ v ∈ vs, v.oneCell' = true) :
  Calls Tryz.prog 160 #[.slice (some ⟨gt, 0, none⟩) n c, .int .i64 (k : Int), .slice (some ⟨g, 0, none⟩) 1 1] w fun e w' =>
   e = .returned (.slice (some ⟨gt, 0, none⟩) (n + 1) c) ∧ ∃ R1, w' = (w.drew.setRow gt R1).setRow gt (A ++ vs ++ (D ++ Z.drop 7)).toArray := by
 have hz2 : ¬ ((k : Int) = (n : Int)) := by omega
 have hsa : w.shape? g = some (30, vs.toArray.size) := by simp only [World.shape?, hg]
 have hsb : w.shape? gt = some (30, (A ++ D ++ Z).toArray.size) := by simp only [World.shape?, hgt]
 have hk0 : (A ++ D ++ Z).toArray.size ≠ 0 := by rw [List.size_toArray, List.length_append, List.length_append, hA, hD, hZ]; omega
 have hfa : w.frozen? ⟨g, 0, none⟩ = false := by simp [World.frozen?, hg]
 have hfe : w.frozen? ⟨g, vs.toArray.size, none⟩ = false := by simp [World.frozen?, hg]
 have hov : ∀ lb cb, (callFunc 173 #[.slice (some ⟨g, 0, none⟩) 1 1, .slice (some ⟨gt, (k + 1) * 7, none⟩) lb cb]).run Tryz.prog w = .ok (.value (.bool false)) w := fun lb cb => by
  rw [run_callFunc_extern Tryz.func173 (by kernel_rfl) (by kernel_rfl) (by kernel_rfl) (e := Extern.SlicesOverlaps.overlaps #[26, 26] #[4]) (by kernel_rfl),
   Lib.run_overlaps_apart w 26 4 30 Tryz.underlying26 7 (fun w => by obtain ⟨i0, hi, hz0, hz1, hz2⟩ := info_parts Tryz.infoMSV; simp [sizeOf, typeInfo, hi, hz1]) ⟨g, 0, none⟩ ⟨gt, (k + 1) * 7, none⟩ 1 1 lb cb hgg 30 30 _ _ hsa hsb hk0 hfa hfe]
  rfl
 have hsz : (Tryz.prog.info? 30).map (·.size) = some 7 := by
  obtain ⟨i0, hi0, h0, h1, h2⟩ := info_parts Tryz.infoMSV
  rw [hi0]; simp [h1]
 obtain ⟨E1, E2, E3, hE, hE1, hE2, hE3⟩ : ∃ E1 E2 E3 : List Value, D ++ Z = E1 ++ E2 ++ E3 ∧ E1.length = 7 ∧ E2.length = D.length ∧ E3 = Z.drop 7 := by
  refine ⟨(D ++ Z).take 7, ((D ++ Z).drop 7).take D.length, Z.drop 7, ?_, by simp; omega, by simp; omega, rfl⟩
  have e3 : Z.drop 7 = ((D ++ Z).drop 7).drop D.length := by
   rw [List.drop_drop, show 7 + D.length = D.length + 7 by omega, ← List.drop_drop, List.drop_left' rfl]
  rw [e3, List.append_assoc, List.take_append_drop, List.take_append_drop]
 have hgt1 : w.drew.heap[gt]? = some (.cells ((A ++ E1) ++ E2 ++ E3).toArray 30 (0, 0)) := by
  have e : (A ++ E1) ++ E2 ++ E3 = A ++ D ++ Z := by rw [List.append_assoc A D Z, hE]; simp
  rw [e]; exact hgt
 have hgt2 : (w.drew.setRow gt ((A ++ E1) ++ D ++ E3).toArray).heap[gt]? = some (.cells (A ++ E1 ++ (D ++ E3)).toArray 30 (0, 0)) := by
  have e : (A ++ E1) ++ D ++ E3 = A ++ E1 ++ (D ++ E3) := by simp
  rw [← e]; exact setRow_heap _ _ _ _ _ _ hgt1
 have hcp1 : ∀ ty dc sc, (Builtin.copy_ #[26, 26] ty #[.slice (some ⟨gt, (k + 1) * 7, none⟩) (n - k) dc, .slice (some ⟨gt, k * 7, none⟩) (n + 1 - k) sc]).run Tryz.prog w.drew = .ok (goInt ((n - k : Nat) : Int)) (w.drew.setRow gt ((A ++ E1) ++ D ++ E3).toArray) := fun ty dc sc =>
  run_copy_put w.drew _ _ ty 30 7 gt ((k + 1) * 7) (n - k) dc ⟨gt, k * 7, none⟩ (n + 1 - k) sc (n - k) (A ++ E1) E2 E3 D 30 Tryz.underlying26 hsz hgt1 (by simp only [Nat.min_def]; split <;> omega) hD
   (fun j v hj => row_cell (w := w.drew) hgt _ (by omega) j v hj) (by simp; omega) hE2 h1D
 have hcp2 : ∀ ty dc, (Builtin.copy_ #[26, 26] ty #[.slice (some ⟨gt, k * 7, none⟩) (n + 1 - k) dc, .slice (some ⟨g, 0, none⟩) 1 1]).run Tryz.prog (w.drew.setRow gt ((A ++ E1) ++ D ++ E3).toArray) = .ok (goInt ((1 : Nat) : Int)) ((w.drew.setRow gt ((A ++ E1) ++ D ++ E3).toArray).setRow gt (A ++ vs ++ (D ++ E3)).toArray) := fun ty dc =>
  run_copy_put _ _ _ ty 30 7 gt (k * 7) (n + 1 - k) dc ⟨g, 0, none⟩ 1 1 1 A E1 (D ++ E3) vs 30 Tryz.underlying26 hsz hgt2 (by simp only [Nat.min_def]; split <;> omega) (by rw [hvl])
   (fun j v hj => by
    have hg3 : (w.drew.setRow gt ((A ++ E1) ++ D ++ E3).toArray).heap[g]? = some (.cells ([] ++ vs ++ []).toArray 30 (0, 0)) := by
     rw [setRow_other _ _ _ _ hgg]
     simpa using (show w.drew.heap[g]? = _ from hg)
    exact row_cell hg3 0 rfl j v hj) (by omega) (by rw [hE1, hvl]) h1v
 rw [← hE3]
 obtain ⟨R1, hR1⟩ : ∃ R1, R1 = ((A ++ E1) ++ D ++ E3).toArray := ⟨_, rfl⟩
 obtain ⟨R2, hR2⟩ : ∃ R2, R2 = (A ++ vs ++ (D ++ E3)).toArray := ⟨_, rfl⟩
 rw [← hR1] at hcp1 hcp2
 rw [← hR2] at hcp2 ⊢
 have hr2 : ¬ (c : Int) < (n : Int) + 1 := by omega
 have hb2 : ¬ (c = k + 1) := by omega
 have hb4 : ¬ (c = k) := by omega
 have hw1 : IntKind.i64.wrap ((k : Int) + 1) = (k : Int) + 1 := by rw [IntKind.wrap_i64]; omega
 have htn : ((k : Int) + 1).toNat = k + 1 := by omega
 have hb1 : (0 : Int) ≤ (k : Int) + 1 := by omega
 have hin : k ≤ n := by omega
 have hb3 : (k : Int) ≤ (n : Int) + 1 := by omega
 have mixed : Tryz.prog.follows .mixedOrders = true := mixed
 clear hR1 hR2 hgt1 hgt2 hE hE1 hE2 hE3 h1D h1v hA hD hZ hvl hsa hsb hk0 hfa hfe
 go_enter Tryz.func160, Tryz.ntmps160
 go_upto_region 15 with (simp only [hov])
 go_region_law_o (refine step_copy_runI rfl _ _ 26 26 rfl (.slice (some ⟨gt, (k + 1) * 7, none⟩) (n - k) (c - (k + 1))) (.slice (some ⟨gt, k * 7, none⟩) (n + 1 - k) (c - k)) (by simp [Act.eval, Act.put]) (by simp [Act.eval, Act.put]) (hcp1 _ _ _) ?_)
 go_wp2_with (at_builtin; refine wpList_copy_runI _ rfl _ _ 26 26 rfl _ _ rfl rfl (hcp2 _ _) ?_)
 go_ret
 exact ⟨rfl, R1, rfl⟩
theorem insGrowM (gt g n c k : Nat) (A D Z vs : List Value) (w : World) (hk : k < n) (hn1 : n ≤ 1000) (hnc : n ≤ c) (hroom : c < n + 1) (hgl : gt < w.heap.size)
  (hgt : w.heap[gt]? = some (.cells (A ++ D ++ Z).toArray 30 (0, 0))) (hg : w.heap[g]? = some (.cells vs.toArray 30 (0, 0))) (hA : A.length = k * 7) (hD : D.length = (n - k) * 7) (hvl : vs.length = 7)
  (h1D : ∀ v ∈ D, v.oneCell' = true) (h1v : ∀ v ∈ vs, v.oneCell' = true) :
  Calls Tryz.prog 160 #[.slice (some ⟨gt, 0, none⟩) n c, .int .i64 (k : Int), .slice (some ⟨g, 0, none⟩) 1 1] w fun e w' =>
   ∃ G Z', e = .returned (.slice (some ⟨w.heap.size, 0, none⟩) (n + 1) G) ∧ n + 1 ≤ G ∧ G ≤ maxLen ∧ Z'.length = (G - (n + 1)) * 7 ∧ Below w.heap.size w w' ∧ w'.heap[w.heap.size]? = some (.cells (A ++ vs ++ D ++ Z').toArray 30 (0, 0)) := by
 have hgw : g < w.heap.size := (Array.getElem?_eq_some_iff.1 hg).1
 have hz2 : ¬ ((k : Int) = (n : Int)) := by omega
 have hz3 : (c : Int) < (n : Int) + 1 := by omega
 have hkk : (n : Int) + 1 - (k : Int) = ((n + 1 - k : Nat) : Int) := by omega
 have hik : k + (n + 1 - k) = n + 1 := by omega
 obtain ⟨i0, hi0, hz0, hzs, hzb⟩ := info_parts Tryz.infoMSV
 have hsz : (Tryz.prog.info? 30).map (·.size) = some 7 := by rw [hi0]; simp [hzs]
 obtain ⟨z, hz⟩ : ∃ z, i0.zero = some z := ⟨_, hz0⟩
 have hzc : z.cells.size = 7 := by
  have e := hz0.symm.trans hz
  injection e with e
  subst e
  rfl
 clear hz0
 have hold : (Builtin.firstCells i0.size k (.slice (some ⟨gt, 0, none⟩) k c)).run Tryz.prog w.drew = .ok A.toArray w.drew := by
  rw [hzs]
  refine run_firstCells_some w.drew 7 k ⟨gt, 0, none⟩ k c A hA fun j v hj => ?_
  have hgt0 : w.drew.heap[gt]? = some (.cells ([] ++ A ++ (D ++ Z)).toArray 30 (0, 0)) := by
   have e : [] ++ A ++ (D ++ Z) = A ++ D ++ Z := by simp
   rw [e]; exact hgt
  exact row_cell hgt0 0 rfl j v hj
 have hrz : ∀ ty, (Builtin.append_ #[26, 3] ty #[.slice (some ⟨gt, 0, none⟩) k c, .int .i64 ((n : Int) + 1 - (k : Int))]).run Tryz.prog w =
   .ok (.slice (some ⟨w.heap.size, 0, none⟩) (n + 1) (grownCap w (n + 1) c 30)) (w.drew.alloc (.cells (A.toArray ++ Builtin.zeroCells z.cells (n + 1 - k) ++ Builtin.zeroCells z.cells (grownCap w (n + 1) c 30 - (n + 1))) 30)) := fun ty => by
  have h := Lib.run_append_grow_zeros w 26 3 ty 30 i0 z .i64 .i64 Tryz.underlying26 Tryz.underlying3 hi0 hz (some ⟨gt, 0, none⟩) k c A hold (n + 1 - k) (by omega) (by omega) (by omega) (by omega) (by rw [hzb]; omega) (by rw [hzb, hik]; exact growslice_fits hroom (by omega))
  rw [hik] at h
  rw [hkk]
  exact h
 obtain ⟨G, hG⟩ : ∃ G, G = grownCap w (n + 1) c 30 := ⟨_, rfl⟩
 have hGn : n + 1 ≤ G := by rw [hG]; exact grownCap_ge w _ _ _
 have hGm : G ≤ maxLen := by rw [hG]; exact grownCap_le_maxLen w (n + 1) c 30 (by unfold maxLen; omega)
 have hG63 : G ≤ 9223372036854775807 := by
  unfold maxLen at hGm
  omega
 rw [← hG] at hrz
 obtain ⟨Z1, hZ1⟩ : ∃ Z1, Z1 = (Builtin.zeroCells z.cells (n + 1 - k)).toList := ⟨_, rfl⟩
 obtain ⟨Z2, hZ2⟩ : ∃ Z2, Z2 = (Builtin.zeroCells z.cells (G - (n + 1))).toList := ⟨_, rfl⟩
 have hl1 : Z1.length = (n + 1 - k) * 7 := by rw [hZ1, Array.length_toList, size_zeroCells, hzc]
 have hl2 : Z2.length = (G - (n + 1)) * 7 := by rw [hZ2, Array.length_toList, size_zeroCells, hzc]
 have hro : A.toArray ++ Builtin.zeroCells z.cells (n + 1 - k) ++ Builtin.zeroCells z.cells (G - (n + 1)) = (A ++ Z1 ++ Z2).toArray := by rw [hZ1, hZ2]; simp
 rw [hro] at hrz
 obtain ⟨F1, F2, hF, hF1, hF2⟩ : ∃ F1 F2, Z1 = F1 ++ F2 ∧ F1.length = 7 ∧ F2.length = D.length := ⟨Z1.take 7, Z1.drop 7, (List.take_append_drop _ _).symm, by rw [List.length_take]; omega, by rw [List.length_drop]; omega⟩
 have e0 : A ++ Z1 ++ Z2 = A ++ F1 ++ (F2 ++ Z2) := by rw [hF]; simp
 rw [e0] at hrz
 obtain ⟨h, hh⟩ : ∃ h, h = w.heap.size := ⟨_, rfl⟩
 have hcpA : ∀ (W : World), W.heap[h]? = some (.cells (A ++ F1 ++ (F2 ++ Z2)).toArray 30 (0, 0)) → W.heap[g]? = w.heap[g]? → ∀ ty dc, (Builtin.copy_ #[26, 26] ty #[.slice (some ⟨h, k * 7, none⟩) (n + 1 - k) dc, .slice (some ⟨g, 0, none⟩) 1 1]).run Tryz.prog W = .ok (goInt ((1 : Nat) : Int)) (W.setRow h (A ++ vs ++ (F2 ++ Z2)).toArray) := fun W hW hWg ty dc =>
  run_copy_put W _ _ ty 30 7 h (k * 7) (n + 1 - k) dc ⟨g, 0, none⟩ 1 1 1 A F1 (F2 ++ Z2) vs 30 Tryz.underlying26 hsz hW (by simp only [Nat.min_def]; split <;> omega) (by rw [hvl])
   (fun j v hj => by
    have hg3 : W.heap[g]? = some (.cells ([] ++ vs ++ []).toArray 30 (0, 0)) := by
     rw [hWg]
     simpa using hg
    exact row_cell hg3 0 rfl j v hj) (by omega) (by rw [hF1, hvl]) h1v
 have hcpB : ∀ (W : World), W.heap[h]? = some (.cells ((A ++ vs) ++ F2 ++ Z2).toArray 30 (0, 0)) → W.heap[gt]? = w.heap[gt]? → ∀ ty dc sc, (Builtin.copy_ #[26, 26] ty #[.slice (some ⟨h, (k + 1) * 7, none⟩) (n - k) dc, .slice (some ⟨gt, k * 7, none⟩) (n - k) sc]).run Tryz.prog W = .ok (goInt ((n - k : Nat) : Int)) (W.setRow h ((A ++ vs) ++ D ++ Z2).toArray) := fun W hW hWg ty dc sc =>
  run_copy_put W _ _ ty 30 7 h ((k + 1) * 7) (n - k) dc ⟨gt, k * 7, none⟩ (n - k) sc (n - k) (A ++ vs) F2 Z2 D 30 Tryz.underlying26 hsz hW (by simp only [Nat.min_def]; split <;> omega) hD
   (fun j v hj => row_cell (hWg.trans hgt) _ (by omega) j v hj) (by simp; omega) hF2 h1D
 obtain ⟨W1, hW1⟩ : ∃ W1, W1 = w.drew.alloc (.cells (A ++ F1 ++ (F2 ++ Z2)).toArray 30) := ⟨_, rfl⟩
 have a1 : W1.heap[h]? = some (.cells (A ++ F1 ++ (F2 ++ Z2)).toArray 30 (0, 0)) := by rw [hW1, hh]; exact Bx.new w.drew 30 _
 have b1 : Below h w W1 := by rw [hW1, hh]; exact (Below.refl _ w).drew.alloc (Nat.le_refl _) _
 have cA := hcpA W1 a1 (b1.block g (by omega))
 obtain ⟨W2, hW2⟩ : ∃ W2, W2 = W1.setRow h (A ++ vs ++ (F2 ++ Z2)).toArray := ⟨_, rfl⟩
 rw [← hW2] at cA
 have a2 : W2.heap[h]? = some (.cells ((A ++ vs) ++ F2 ++ Z2).toArray 30 (0, 0)) := by
  have e : (A ++ vs) ++ F2 ++ Z2 = A ++ vs ++ (F2 ++ Z2) := by simp
  rw [hW2, e]; exact setRow_heap _ _ _ _ _ _ a1
 have b2 : Below h w W2 := by rw [hW2]; exact below_setRow b1 (Nat.le_refl _) _
 have cB := hcpB W2.drew a2 (b2.block gt (by omega))
 obtain ⟨W3, hW3⟩ : ∃ W3, W3 = W2.drew.setRow h ((A ++ vs) ++ D ++ Z2).toArray := ⟨_, rfl⟩
 rw [← hW3] at cB
 have a3 : W3.heap[h]? = some (.cells ((A ++ vs) ++ D ++ Z2).toArray 30 (0, 0)) := by rw [hW3]; exact setRow_heap _ _ _ _ _ _ (show W2.drew.heap[h]? = _ from a2)
 have b3 : Below h w W3 := by rw [hW3]; exact below_setRow b2.drew (Nat.le_refl _) _
 rw [← hW1, ← hh] at hrz
 rw [← hh]
 have FIN : Hid (n + 1 ≤ G ∧ G ≤ maxLen ∧ Z2.length = (G - (n + 1)) * 7 ∧ Below h w W3 ∧ W3.heap[h]? = some (.cells (A ++ vs ++ D ++ Z2).toArray 30 (0, 0))) := hH_ (⟨hGn, hGm, hl2, b3, a3⟩)
 have hGi : ¬ (G = k) := by omega
 have hGim : ¬ (G = k + 1) := by omega
 have hci : ¬ (c = k) := by omega
 have hw1 : IntKind.i64.wrap ((k : Int) + 1) = (k : Int) + 1 := by rw [IntKind.wrap_i64]; omega
 have hin : k ≤ n := by omega
 have htn : ((k : Int) + 1).toNat = k + 1 := by omega
 have hb3 : (k : Int) ≤ (n : Int) := by omega
 have hb1 : (0 : Int) ≤ (k : Int) + 1 := by omega
 have mixed : Tryz.prog.follows .mixedOrders = true := mixed
 clear hkk hik hold hro e0 hF hF1 hF2 hl1 hl2 hZ1 hZ2 hcpA hcpB a1 a2 a3 b1 b2 b3 hW1 hW2 hW3 hG hGm hzc hz hzs hzb hi0 hgt hg hA hD hvl h1D h1v hgw hgl hh
 go_enter Tryz.func160, Tryz.ntmps160
 go_wp2_with (first
  | (at_builtin; refine Lib.wpList_append_run _ rfl _ _ _ _ rfl _ _ rfl rfl _ _ (hrz _) ?_)
  | (at_builtin; refine wpList_copy_runI _ rfl _ _ 26 26 rfl _ _ rfl rfl (cA _ _) ?_))
 go_region_law_o (refine step_copy_runI rfl _ _ 26 26 rfl (.slice (some ⟨h, (k + 1) * 7, none⟩) (n - k) (G - (k + 1))) (.slice (some ⟨gt, k * 7, none⟩) (n - k) (c - k)) (by simp [Act.eval, Act.put]) (by simp [Act.eval, Act.put]) (cB _ _ _) ?_)
 go_wp2
 go_ret
 exact ⟨G, Z2, rfl, FIN.out⟩
theorem implInsM (te : Value) (T : List Mx) (x : Mx) (B g k : Nat) (w : World) (h : OwnsE mxE 30 w B te T) (hg : Bx w g 30 (mxE.c x).toArray) (hne : te.ownBlock ≠ some g) (hl : T.length ≤ 1000) (hk : k < T.length) (hB : B ≤ w.heap.size) :
  Calls Tryz.prog 160 #[te, .int .i64 (k : Int), .slice (some ⟨g, 0, none⟩) 1 1] w fun e w' => ∃ v, e = .returned v ∧ InsG mxE 30 w w' B te v T k x := by
 obtain ⟨hlen, h0⟩ := (show w.ownsRow B 30 mxE.k te T.length (cellsE mxE T) from h)
 rcases h0 with ⟨rfl, h0⟩ | ⟨gt, c, cur, rfl, hBg, hgt, hnc, hcm, hcs, htk⟩
 ·
  omega
 have hgg : g ≠ gt := fun e => hne (by rw [e]; rfl)
 have hcm2 := hcm
 unfold maxLen at hcm
 have hcs : cur.size = c * 7 := hcs
 have htk : cur.toList.take (T.length * 7) = cellsE mxE T := htk
 have hA : (cellsE mxE (T.take k)).length = k * 7 := by
  rw [cellsE_length, List.length_take, Nat.min_eq_left (Nat.le_of_lt hk)]; rfl
 have hD : (cellsE mxE (T.drop k)).length = (T.length - k) * 7 := by
  rw [cellsE_length, List.length_drop]; rfl
 have hspl : cellsE mxE T = cellsE mxE (T.take k) ++ cellsE mxE (T.drop k) := by rw [← cellsE_append, List.take_append_drop]
 have hZ : (cur.toList.drop (T.length * 7)).length = (c - T.length) * 7 := by
  rw [List.length_drop, Array.length_toList, hcs, Nat.sub_mul]
 have hcur : cur = (cellsE mxE (T.take k) ++ cellsE mxE (T.drop k) ++ cur.toList.drop (T.length * 7)).toArray := by
  rw [← hspl, ← htk, List.take_append_drop]
 have hgt2 : w.heap[gt]? = some (.cells (cellsE mxE (T.take k) ++ cellsE mxE (T.drop k) ++ cur.toList.drop (T.length * 7)).toArray 30 (0, 0)) := by rw [← hcur]; exact hgt
 have hvl : (mxE.c x).length = 7 := mxE.len x
 have hnew : cellsE mxE (T.take k ++ x :: T.drop k) = cellsE mxE (T.take k) ++ mxE.c x ++ cellsE mxE (T.drop k) := by
  rw [cellsE_append, cellsE_cons, List.append_assoc]
 have hnl : (T.take k ++ x :: T.drop k).length = T.length + 1 := by simp; omega
 have hal : (cellsE mxE (T.take k) ++ mxE.c x ++ cellsE mxE (T.drop k)).length = (T.length + 1) * 7 := by
  rw [List.length_append, List.length_append, hA, hvl, hD]
  omega
 have hgl : gt < w.heap.size := (Array.getElem?_eq_some_iff.1 hgt).1
 by_cases hroom : T.length + 1 ≤ c
 ·
  refine (insRoomM gt g T.length c k _ _ _ _ w hk hl hroom hcm hgg hgt2 hg hA hD hZ hvl (cellsE_one _ _) (mxE.one x)).mono fun e w' he => ?_
  obtain ⟨rfl, R1, rfl⟩ := he
  refine ⟨_, rfl, ⟨?_, ?_, .inl rfl⟩⟩
  rotate_left
  ·
   refine ⟨rfl, rfl, rfl, by simp, fun j hj hne => ?_⟩
   have hjg : j ≠ gt := fun e => hne (by rw [e]; rfl)
   rw [setRow_other _ _ _ _ hjg, setRow_other _ _ _ _ hjg]
   rfl
  refine (show World.ownsRow _ B 30 mxE.k _ _ _ from ⟨cellsE_length _ _, Or.inr ⟨gt, c, (cellsE mxE (T.take k) ++ mxE.c x ++ (cellsE mxE (T.drop k) ++ (cur.toList.drop (T.length * 7)).drop 7)).toArray, by rw [hnl], hBg, ?_, by rw [hnl]; exact hroom, hcm2, ?_, ?_⟩⟩)
  ·
   exact setRow_heap _ _ _ _ _ _ (setRow_heap _ _ _ _ _ _ (show w.drew.heap[gt]? = _ from hgt2))
  ·
   have e : (cellsE mxE (T.take k) ++ mxE.c x ++ (cellsE mxE (T.drop k) ++ (cur.toList.drop (T.length * 7)).drop 7)) = (cellsE mxE (T.take k) ++ mxE.c x ++ cellsE mxE (T.drop k)) ++ (cur.toList.drop (T.length * 7)).drop 7 := by simp
   rw [e, List.size_toArray, List.length_append, hal, List.length_drop, hZ]
   show _ = c * 7
   omega
  ·
   rw [hnl, hnew]
   have e : (cellsE mxE (T.take k) ++ mxE.c x ++ (cellsE mxE (T.drop k) ++ (cur.toList.drop (T.length * 7)).drop 7)) = (cellsE mxE (T.take k) ++ mxE.c x ++ cellsE mxE (T.drop k)) ++ (cur.toList.drop (T.length * 7)).drop 7 := by simp
   show List.take _ (cellsE mxE (T.take k) ++ mxE.c x ++ (cellsE mxE (T.drop k) ++ (cur.toList.drop (T.length * 7)).drop 7)) = _
   rw [e]
   exact List.take_left' hal
 ·
  refine (insGrowM gt g T.length c k _ _ _ _ w hk hl hnc (by omega) hgl hgt2 hg hA hD hvl (cellsE_one _ _) (mxE.one x)).mono fun e w' he => ?_
  obtain ⟨G, Z', rfl, hG1, hG2, hZ', hb, hc⟩ := he
  refine ⟨_, rfl, ⟨?_, ⟨hb.os, hb.tape, hb.output, hb.size, fun j hj _ => hb.block j hj⟩, .inr ⟨_, rfl, Nat.le_refl _⟩⟩⟩
  refine (show World.ownsRow _ B 30 mxE.k _ _ _ from ⟨cellsE_length _ _, Or.inr ⟨w.heap.size, G, _, by rw [hnl], hB, hc, by rw [hnl]; exact hG1, hG2, ?_, ?_⟩⟩)
  ·
   rw [List.size_toArray, List.length_append, hal, hZ']
   show _ = G * 7
   omega
  ·
   rw [hnl, hnew]
   show List.take _ (cellsE mxE (T.take k) ++ mxE.c x ++ cellsE mxE (T.drop k) ++ Z') = _
   exact List.take_left' hal
open Go.RowKit Go.Sort Go.Shelf

theorem insRoomN (gt g n c k : Nat) (A D Z vs : List Value) (w : World) (hk : k < n) (hn1 : n ≤ 1000) (hroom : n + 1 ≤ c) (hcm : c ≤ 9223372036854775807) (hgg : g ≠ gt)
  (hgt : w.heap[gt]? = some (.cells (A ++ D ++ Z).toArray 2 (0, 0))) (hg : w.heap[g]? = some (.cells vs.toArray 2 (0, 0))) (hA : A.length = k * 1) (hD : D.length = (n - k) * 1) (hZ : Z.length = (c - n) * 1) (hvl : vs.length = 1)
  (h1D : ∀ v ∈ D, v.oneCell' = true) (h1v : ∀ v ∈ vs, v.oneCell' = true) :
  Calls Tryz.prog 156 #[.slice (some ⟨gt, 0, none⟩) n c, .int .i64 (k : Int), .slice (some ⟨g, 0, none⟩) 1 1] w fun e w' =>
   e = .returned (.slice (some ⟨gt, 0, none⟩) (n + 1) c) ∧ ∃ R1, w' = (w.drew.setRow gt R1).setRow gt (A ++ vs ++ (D ++ Z.drop 1)).toArray := by
 have hz2 : ¬ ((k : Int) = (n : Int)) := by omega
 have hsa : w.shape? g = some (2, vs.toArray.size) := by simp only [World.shape?, hg]
 have hsb : w.shape? gt = some (2, (A ++ D ++ Z).toArray.size) := by simp only [World.shape?, hgt]
 have hk0 : (A ++ D ++ Z).toArray.size ≠ 0 := by rw [List.size_toArray, List.length_append, List.length_append, hA, hD, hZ]; omega
 have hfa : w.frozen? ⟨g, 0, none⟩ = false := by simp [World.frozen?, hg]
 have hfe : w.frozen? ⟨g, vs.toArray.size, none⟩ = false := by simp [World.frozen?, hg]
 have hov : ∀ lb cb, (callFunc 170 #[.slice (some ⟨g, 0, none⟩) 1 1, .slice (some ⟨gt, k + 1, none⟩) lb cb]).run Tryz.prog w = .ok (.value (.bool false)) w := fun lb cb => by
  rw [run_callFunc_extern Tryz.func170 (by kernel_rfl) (by kernel_rfl) (by kernel_rfl) (e := Extern.SlicesOverlaps.overlaps #[25, 25] #[4]) (by kernel_rfl),
   Lib.run_overlaps_apart w 25 4 2 Tryz.underlying25 1 (fun w => by obtain ⟨i0, hi, hz0, hz1, hz2⟩ := info_parts Tryz.infoN2; simp [sizeOf, typeInfo, hi, hz1]) ⟨g, 0, none⟩ ⟨gt, k + 1, none⟩ 1 1 lb cb hgg 2 2 _ _ hsa hsb hk0 hfa hfe]
  rfl
 have hsz : (Tryz.prog.info? 2).map (·.size) = some 1 := by
  obtain ⟨i0, hi0, h0, h1, h2⟩ := info_parts Tryz.infoN2
  rw [hi0]; simp [h1]
 obtain ⟨E1, E2, E3, hE, hE1, hE2, hE3⟩ : ∃ E1 E2 E3 : List Value, D ++ Z = E1 ++ E2 ++ E3 ∧ E1.length = 1 ∧ E2.length = D.length ∧ E3 = Z.drop 1 := by
  refine ⟨(D ++ Z).take 1, ((D ++ Z).drop 1).take D.length, Z.drop 1, ?_, by simp; omega, by simp; omega, rfl⟩
  have e3 : Z.drop 1 = ((D ++ Z).drop 1).drop D.length := by
   rw [List.drop_drop, show 1 + D.length = D.length + 1 by omega, ← List.drop_drop, List.drop_left' rfl]
  rw [e3, List.append_assoc, List.take_append_drop, List.take_append_drop]
 have hgt1 : w.drew.heap[gt]? = some (.cells ((A ++ E1) ++ E2 ++ E3).toArray 2 (0, 0)) := by
  have e : (A ++ E1) ++ E2 ++ E3 = A ++ D ++ Z := by rw [List.append_assoc A D Z, hE]; simp
  rw [e]; exact hgt
 have hgt2 : (w.drew.setRow gt ((A ++ E1) ++ D ++ E3).toArray).heap[gt]? = some (.cells (A ++ E1 ++ (D ++ E3)).toArray 2 (0, 0)) := by
  have e : (A ++ E1) ++ D ++ E3 = A ++ E1 ++ (D ++ E3) := by simp
  rw [← e]; exact setRow_heap _ _ _ _ _ _ hgt1
 have hcp1 : ∀ ty dc sc, (Builtin.copy_ #[25, 25] ty #[.slice (some ⟨gt, k + 1, none⟩) (n - k) dc, .slice (some ⟨gt, k, none⟩) (n + 1 - k) sc]).run Tryz.prog w.drew = .ok (goInt ((n - k : Nat) : Int)) (w.drew.setRow gt ((A ++ E1) ++ D ++ E3).toArray) := fun ty dc sc =>
  run_copy_put w.drew _ _ ty 2 1 gt (k + 1) (n - k) dc ⟨gt, k, none⟩ (n + 1 - k) sc (n - k) (A ++ E1) E2 E3 D 2 Tryz.underlying25 hsz hgt1 (by simp only [Nat.min_def]; split <;> omega) hD
   (fun j v hj => row_cell (w := w.drew) hgt _ (by omega) j v hj) (by simp; omega) hE2 h1D
 have hcp2 : ∀ ty dc, (Builtin.copy_ #[25, 25] ty #[.slice (some ⟨gt, k, none⟩) (n + 1 - k) dc, .slice (some ⟨g, 0, none⟩) 1 1]).run Tryz.prog (w.drew.setRow gt ((A ++ E1) ++ D ++ E3).toArray) = .ok (goInt ((1 : Nat) : Int)) ((w.drew.setRow gt ((A ++ E1) ++ D ++ E3).toArray).setRow gt (A ++ vs ++ (D ++ E3)).toArray) := fun ty dc =>
  run_copy_put _ _ _ ty 2 1 gt k (n + 1 - k) dc ⟨g, 0, none⟩ 1 1 1 A E1 (D ++ E3) vs 2 Tryz.underlying25 hsz hgt2 (by simp only [Nat.min_def]; split <;> omega) (by rw [hvl])
   (fun j v hj => by
    have hg3 : (w.drew.setRow gt ((A ++ E1) ++ D ++ E3).toArray).heap[g]? = some (.cells ([] ++ vs ++ []).toArray 2 (0, 0)) := by
     rw [setRow_other _ _ _ _ hgg]
     simpa using (show w.drew.heap[g]? = _ from hg)
    exact row_cell hg3 0 rfl j v hj) (by omega) (by rw [hE1, hvl]) h1v
 rw [← hE3]
 obtain ⟨R1, hR1⟩ : ∃ R1, R1 = ((A ++ E1) ++ D ++ E3).toArray := ⟨_, rfl⟩
 obtain ⟨R2, hR2⟩ : ∃ R2, R2 = (A ++ vs ++ (D ++ E3)).toArray := ⟨_, rfl⟩
 rw [← hR1] at hcp1 hcp2
 rw [← hR2] at hcp2 ⊢
 have hr2 : ¬ (c : Int) < (n : Int) + 1 := by omega
 have hb2 : ¬ (c = k + 1) := by omega
 have hb4 : ¬ (c = k) := by omega
 have hw1 : IntKind.i64.wrap ((k : Int) + 1) = (k : Int) + 1 := by rw [IntKind.wrap_i64]; omega
 have htn : ((k : Int) + 1).toNat = k + 1 := by omega
 have hb1 : (0 : Int) ≤ (k : Int) + 1 := by omega
 have hin : k ≤ n := by omega
 have hb3 : (k : Int) ≤ (n : Int) + 1 := by omega
 have mixed : Tryz.prog.follows .mixedOrders = true := mixed
 clear hR1 hR2 hgt1 hgt2 hE hE1 hE2 hE3 h1D h1v hA hD hZ hvl hsa hsb hk0 hfa hfe
 go_enter Tryz.func156, Tryz.ntmps156
 go_upto_region 15 with (simp only [hov])
 go_region_law_o (refine step_copy_runI rfl _ _ 25 25 rfl (.slice (some ⟨gt, k + 1, none⟩) (n - k) (c - (k + 1))) (.slice (some ⟨gt, k, none⟩) (n + 1 - k) (c - k)) (by simp [Act.eval, Act.put]) (by simp [Act.eval, Act.put]) (hcp1 _ _ _) ?_)
 go_wp2_with (at_builtin; refine wpList_copy_runI _ rfl _ _ 25 25 rfl _ _ rfl rfl (hcp2 _ _) ?_)
 go_ret
 exact ⟨rfl, R1, rfl⟩
theorem insGrowN (gt g n c k : Nat) (A D Z vs : List Value) (w : World) (hk : k < n) (hn1 : n ≤ 1000) (hnc : n ≤ c) (hroom : c < n + 1) (hgl : gt < w.heap.size)
  (hgt : w.heap[gt]? = some (.cells (A ++ D ++ Z).toArray 2 (0, 0))) (hg : w.heap[g]? = some (.cells vs.toArray 2 (0, 0))) (hA : A.length = k * 1) (hD : D.length = (n - k) * 1) (hvl : vs.length = 1)
  (h1D : ∀ v ∈ D, v.oneCell' = true) (h1v : ∀ v ∈ vs, v.oneCell' = true) :
  Calls Tryz.prog 156 #[.slice (some ⟨gt, 0, none⟩) n c, .int .i64 (k : Int), .slice (some ⟨g, 0, none⟩) 1 1] w fun e w' =>
   ∃ G Z', e = .returned (.slice (some ⟨w.heap.size, 0, none⟩) (n + 1) G) ∧ n + 1 ≤ G ∧ G ≤ maxLen ∧ Z'.length = (G - (n + 1)) * 1 ∧ Below w.heap.size w w' ∧ w'.heap[w.heap.size]? = some (.cells (A ++ vs ++ D ++ Z').toArray 2 (0, 0)) := by
 have hgw : g < w.heap.size := (Array.getElem?_eq_some_iff.1 hg).1
 have hz2 : ¬ ((k : Int) = (n : Int)) := by omega
 have hz3 : (c : Int) < (n : Int) + 1 := by omega
 have hkk : (n : Int) + 1 - (k : Int) = ((n + 1 - k : Nat) : Int) := by omega
 have hik : k + (n + 1 - k) = n + 1 := by omega
 obtain ⟨i0, hi0, hz0, hzs, hzb⟩ := info_parts Tryz.infoN2
 have hsz : (Tryz.prog.info? 2).map (·.size) = some 1 := by rw [hi0]; simp [hzs]
 obtain ⟨z, hz⟩ : ∃ z, i0.zero = some z := ⟨_, hz0⟩
 have hzc : z.cells.size = 1 := by
  have e := hz0.symm.trans hz
  injection e with e
  subst e
  rfl
 clear hz0
 have hold : (Builtin.firstCells i0.size k (.slice (some ⟨gt, 0, none⟩) k c)).run Tryz.prog w.drew = .ok A.toArray w.drew := by
  rw [hzs]
  refine run_firstCells_some w.drew 1 k ⟨gt, 0, none⟩ k c A hA fun j v hj => ?_
  have hgt0 : w.drew.heap[gt]? = some (.cells ([] ++ A ++ (D ++ Z)).toArray 2 (0, 0)) := by
   have e : [] ++ A ++ (D ++ Z) = A ++ D ++ Z := by simp
   rw [e]; exact hgt
  exact row_cell hgt0 0 rfl j v hj
 have hrz : ∀ ty, (Builtin.append_ #[25, 3] ty #[.slice (some ⟨gt, 0, none⟩) k c, .int .i64 ((n : Int) + 1 - (k : Int))]).run Tryz.prog w =
   .ok (.slice (some ⟨w.heap.size, 0, none⟩) (n + 1) (grownCap w (n + 1) c 2)) (w.drew.alloc (.cells (A.toArray ++ Builtin.zeroCells z.cells (n + 1 - k) ++ Builtin.zeroCells z.cells (grownCap w (n + 1) c 2 - (n + 1))) 2)) := fun ty => by
  have h := Lib.run_append_grow_zeros w 25 3 ty 2 i0 z .i64 .i64 Tryz.underlying25 Tryz.underlying3 hi0 hz (some ⟨gt, 0, none⟩) k c A hold (n + 1 - k) (by omega) (by omega) (by omega) (by omega) (by rw [hzb]; omega) (by rw [hzb, hik]; exact growslice_fits hroom (by omega))
  rw [hik] at h
  rw [hkk]
  exact h
 obtain ⟨G, hG⟩ : ∃ G, G = grownCap w (n + 1) c 2 := ⟨_, rfl⟩
 have hGn : n + 1 ≤ G := by rw [hG]; exact grownCap_ge w _ _ _
 have hGm : G ≤ maxLen := by rw [hG]; exact grownCap_le_maxLen w (n + 1) c 2 (by unfold maxLen; omega)
 have hG63 : G ≤ 9223372036854775807 := by
  unfold maxLen at hGm
  omega
 rw [← hG] at hrz
 obtain ⟨Z1, hZ1⟩ : ∃ Z1, Z1 = (Builtin.zeroCells z.cells (n + 1 - k)).toList := ⟨_, rfl⟩
 obtain ⟨Z2, hZ2⟩ : ∃ Z2, Z2 = (Builtin.zeroCells z.cells (G - (n + 1))).toList := ⟨_, rfl⟩
 have hl1 : Z1.length = (n + 1 - k) * 1 := by rw [hZ1, Array.length_toList, size_zeroCells, hzc]
 have hl2 : Z2.length = (G - (n + 1)) * 1 := by rw [hZ2, Array.length_toList, size_zeroCells, hzc]
 have hro : A.toArray ++ Builtin.zeroCells z.cells (n + 1 - k) ++ Builtin.zeroCells z.cells (G - (n + 1)) = (A ++ Z1 ++ Z2).toArray := by rw [hZ1, hZ2]; simp
 rw [hro] at hrz
 obtain ⟨F1, F2, hF, hF1, hF2⟩ : ∃ F1 F2, Z1 = F1 ++ F2 ∧ F1.length = 1 ∧ F2.length = D.length := ⟨Z1.take 1, Z1.drop 1, (List.take_append_drop _ _).symm, by rw [List.length_take]; omega, by rw [List.length_drop]; omega⟩
 have e0 : A ++ Z1 ++ Z2 = A ++ F1 ++ (F2 ++ Z2) := by rw [hF]; simp
 rw [e0] at hrz
 obtain ⟨h, hh⟩ : ∃ h, h = w.heap.size := ⟨_, rfl⟩
 have hcpA : ∀ (W : World), W.heap[h]? = some (.cells (A ++ F1 ++ (F2 ++ Z2)).toArray 2 (0, 0)) → W.heap[g]? = w.heap[g]? → ∀ ty dc, (Builtin.copy_ #[25, 25] ty #[.slice (some ⟨h, k, none⟩) (n + 1 - k) dc, .slice (some ⟨g, 0, none⟩) 1 1]).run Tryz.prog W = .ok (goInt ((1 : Nat) : Int)) (W.setRow h (A ++ vs ++ (F2 ++ Z2)).toArray) := fun W hW hWg ty dc =>
  run_copy_put W _ _ ty 2 1 h k (n + 1 - k) dc ⟨g, 0, none⟩ 1 1 1 A F1 (F2 ++ Z2) vs 2 Tryz.underlying25 hsz hW (by simp only [Nat.min_def]; split <;> omega) (by rw [hvl])
   (fun j v hj => by
    have hg3 : W.heap[g]? = some (.cells ([] ++ vs ++ []).toArray 2 (0, 0)) := by
     rw [hWg]
     simpa using hg
    exact row_cell hg3 0 rfl j v hj) (by omega) (by rw [hF1, hvl]) h1v
 have hcpB : ∀ (W : World), W.heap[h]? = some (.cells ((A ++ vs) ++ F2 ++ Z2).toArray 2 (0, 0)) → W.heap[gt]? = w.heap[gt]? → ∀ ty dc sc, (Builtin.copy_ #[25, 25] ty #[.slice (some ⟨h, k + 1, none⟩) (n - k) dc, .slice (some ⟨gt, k, none⟩) (n - k) sc]).run Tryz.prog W = .ok (goInt ((n - k : Nat) : Int)) (W.setRow h ((A ++ vs) ++ D ++ Z2).toArray) := fun W hW hWg ty dc sc =>
  run_copy_put W _ _ ty 2 1 h (k + 1) (n - k) dc ⟨gt, k, none⟩ (n - k) sc (n - k) (A ++ vs) F2 Z2 D 2 Tryz.underlying25 hsz hW (by simp only [Nat.min_def]; split <;> omega) hD
   (fun j v hj => row_cell (hWg.trans hgt) _ (by omega) j v hj) (by simp; omega) hF2 h1D
 obtain ⟨W1, hW1⟩ : ∃ W1, W1 = w.drew.alloc (.cells (A ++ F1 ++ (F2 ++ Z2)).toArray 2) := ⟨_, rfl⟩
 have a1 : W1.heap[h]? = some (.cells (A ++ F1 ++ (F2 ++ Z2)).toArray 2 (0, 0)) := by rw [hW1, hh]; exact Bx.new w.drew 2 _
 have b1 : Below h w W1 := by rw [hW1, hh]; exact (Below.refl _ w).drew.alloc (Nat.le_refl _) _
 have cA := hcpA W1 a1 (b1.block g (by omega))
 obtain ⟨W2, hW2⟩ : ∃ W2, W2 = W1.setRow h (A ++ vs ++ (F2 ++ Z2)).toArray := ⟨_, rfl⟩
 rw [← hW2] at cA
 have a2 : W2.heap[h]? = some (.cells ((A ++ vs) ++ F2 ++ Z2).toArray 2 (0, 0)) := by
  have e : (A ++ vs) ++ F2 ++ Z2 = A ++ vs ++ (F2 ++ Z2) := by simp
  rw [hW2, e]; exact setRow_heap _ _ _ _ _ _ a1
 have b2 : Below h w W2 := by rw [hW2]; exact below_setRow b1 (Nat.le_refl _) _
 have cB := hcpB W2.drew a2 (b2.block gt (by omega))
 obtain ⟨W3, hW3⟩ : ∃ W3, W3 = W2.drew.setRow h ((A ++ vs) ++ D ++ Z2).toArray := ⟨_, rfl⟩
 rw [← hW3] at cB
 have a3 : W3.heap[h]? = some (.cells ((A ++ vs) ++ D ++ Z2).toArray 2 (0, 0)) := by rw [hW3]; exact setRow_heap _ _ _ _ _ _ (show W2.drew.heap[h]? = _ from a2)
 have b3 : Below h w W3 := by rw [hW3]; exact below_setRow b2.drew (Nat.le_refl _) _
 rw [← hW1, ← hh] at hrz
 rw [← hh]
 have FIN : Hid (n + 1 ≤ G ∧ G ≤ maxLen ∧ Z2.length = (G - (n + 1)) * 1 ∧ Below h w W3 ∧ W3.heap[h]? = some (.cells (A ++ vs ++ D ++ Z2).toArray 2 (0, 0))) := hH_ (⟨hGn, hGm, hl2, b3, a3⟩)
 have hGi : ¬ (G = k) := by omega
 have hGim : ¬ (G = k + 1) := by omega
 have hci : ¬ (c = k) := by omega
 have hw1 : IntKind.i64.wrap ((k : Int) + 1) = (k : Int) + 1 := by rw [IntKind.wrap_i64]; omega
 have hin : k ≤ n := by omega
 have htn : ((k : Int) + 1).toNat = k + 1 := by omega
 have hb3 : (k : Int) ≤ (n : Int) := by omega
 have hb1 : (0 : Int) ≤ (k : Int) + 1 := by omega
 have mixed : Tryz.prog.follows .mixedOrders = true := mixed
 clear hkk hik hold hro e0 hF hF1 hF2 hl1 hl2 hZ1 hZ2 hcpA hcpB a1 a2 a3 b1 b2 b3 hW1 hW2 hW3 hG hGm hzc hz hzs hzb hi0 hgt hg hA hD hvl h1D h1v hgw hgl hh
 go_enter Tryz.func156, Tryz.ntmps156
 go_wp2_with (first
  | (at_builtin; refine Lib.wpList_append_run _ rfl _ _ _ _ rfl _ _ rfl rfl _ _ (hrz _) ?_)
  | (at_builtin; refine wpList_copy_runI _ rfl _ _ 25 25 rfl _ _ rfl rfl (cA _ _) ?_))
 go_region_law_o (refine step_copy_runI rfl _ _ 25 25 rfl (.slice (some ⟨h, k + 1, none⟩) (n - k) (G - (k + 1))) (.slice (some ⟨gt, k, none⟩) (n - k) (c - k)) (by simp [Act.eval, Act.put]) (by simp [Act.eval, Act.put]) (cB _ _ _) ?_)
 go_wp2
 go_ret
 exact ⟨G, Z2, rfl, FIN.out⟩
theorem implInsN (te : Value) (T : List Int) (x : Int) (B g k : Nat) (w : World) (h : OwnsE intE 2 w B te T) (hg : Bx w g 2 (intE.c x).toArray) (hne : te.ownBlock ≠ some g) (hl : T.length ≤ 1000) (hk : k < T.length) (hB : B ≤ w.heap.size) :
  Calls Tryz.prog 156 #[te, .int .i64 (k : Int), .slice (some ⟨g, 0, none⟩) 1 1] w fun e w' => ∃ v, e = .returned v ∧ InsG intE 2 w w' B te v T k x := by
 obtain ⟨hlen, h0⟩ := (show w.ownsRow B 2 intE.k te T.length (cellsE intE T) from h)
 rcases h0 with ⟨rfl, h0⟩ | ⟨gt, c, cur, rfl, hBg, hgt, hnc, hcm, hcs, htk⟩
 ·
  omega
 have hgg : g ≠ gt := fun e => hne (by rw [e]; rfl)
 have hcm2 := hcm
 unfold maxLen at hcm
 have hcs : cur.size = c * 1 := hcs
 have htk : cur.toList.take (T.length * 1) = cellsE intE T := htk
 have hA : (cellsE intE (T.take k)).length = k * 1 := by
  rw [cellsE_length, List.length_take, Nat.min_eq_left (Nat.le_of_lt hk)]; rfl
 have hD : (cellsE intE (T.drop k)).length = (T.length - k) * 1 := by
  rw [cellsE_length, List.length_drop]; rfl
 have hspl : cellsE intE T = cellsE intE (T.take k) ++ cellsE intE (T.drop k) := by rw [← cellsE_append, List.take_append_drop]
 have hZ : (cur.toList.drop (T.length * 1)).length = (c - T.length) * 1 := by
  rw [List.length_drop, Array.length_toList, hcs, Nat.sub_mul]
 have hcur : cur = (cellsE intE (T.take k) ++ cellsE intE (T.drop k) ++ cur.toList.drop (T.length * 1)).toArray := by
  rw [← hspl, ← htk, List.take_append_drop]
 have hgt2 : w.heap[gt]? = some (.cells (cellsE intE (T.take k) ++ cellsE intE (T.drop k) ++ cur.toList.drop (T.length * 1)).toArray 2 (0, 0)) := by rw [← hcur]; exact hgt
 have hvl : (intE.c x).length = 1 := intE.len x
 have hnew : cellsE intE (T.take k ++ x :: T.drop k) = cellsE intE (T.take k) ++ intE.c x ++ cellsE intE (T.drop k) := by
  rw [cellsE_append, cellsE_cons, List.append_assoc]
 have hnl : (T.take k ++ x :: T.drop k).length = T.length + 1 := by simp; omega
 have hal : (cellsE intE (T.take k) ++ intE.c x ++ cellsE intE (T.drop k)).length = (T.length + 1) * 1 := by
  rw [List.length_append, List.length_append, hA, hvl, hD]
  omega
 have hgl : gt < w.heap.size := (Array.getElem?_eq_some_iff.1 hgt).1
 by_cases hroom : T.length + 1 ≤ c
 ·
  refine (insRoomN gt g T.length c k _ _ _ _ w hk hl hroom hcm hgg hgt2 hg hA hD hZ hvl (cellsE_one _ _) (intE.one x)).mono fun e w' he => ?_
  obtain ⟨rfl, R1, rfl⟩ := he
  refine ⟨_, rfl, ⟨?_, ?_, .inl rfl⟩⟩
  rotate_left
  ·
   refine ⟨rfl, rfl, rfl, by simp, fun j hj hne => ?_⟩
   have hjg : j ≠ gt := fun e => hne (by rw [e]; rfl)
   rw [setRow_other _ _ _ _ hjg, setRow_other _ _ _ _ hjg]
   rfl
  refine (show World.ownsRow _ B 2 intE.k _ _ _ from ⟨cellsE_length _ _, Or.inr ⟨gt, c, (cellsE intE (T.take k) ++ intE.c x ++ (cellsE intE (T.drop k) ++ (cur.toList.drop (T.length * 1)).drop 1)).toArray, by rw [hnl], hBg, ?_, by rw [hnl]; exact hroom, hcm2, ?_, ?_⟩⟩)
  ·
   exact setRow_heap _ _ _ _ _ _ (setRow_heap _ _ _ _ _ _ (show w.drew.heap[gt]? = _ from hgt2))
  ·
   have e : (cellsE intE (T.take k) ++ intE.c x ++ (cellsE intE (T.drop k) ++ (cur.toList.drop (T.length * 1)).drop 1)) = (cellsE intE (T.take k) ++ intE.c x ++ cellsE intE (T.drop k)) ++ (cur.toList.drop (T.length * 1)).drop 1 := by simp
   rw [e, List.size_toArray, List.length_append, hal, List.length_drop, hZ]
   show _ = c * 1
   omega
  ·
   rw [hnl, hnew]
   have e : (cellsE intE (T.take k) ++ intE.c x ++ (cellsE intE (T.drop k) ++ (cur.toList.drop (T.length * 1)).drop 1)) = (cellsE intE (T.take k) ++ intE.c x ++ cellsE intE (T.drop k)) ++ (cur.toList.drop (T.length * 1)).drop 1 := by simp
   show List.take _ (cellsE intE (T.take k) ++ intE.c x ++ (cellsE intE (T.drop k) ++ (cur.toList.drop (T.length * 1)).drop 1)) = _
   rw [e]
   exact List.take_left' hal
 ·
  refine (insGrowN gt g T.length c k _ _ _ _ w hk hl hnc (by omega) hgl hgt2 hg hA hD hvl (cellsE_one _ _) (intE.one x)).mono fun e w' he => ?_
  obtain ⟨G, Z', rfl, hG1, hG2, hZ', hb, hc⟩ := he
  refine ⟨_, rfl, ⟨?_, ⟨hb.os, hb.tape, hb.output, hb.size, fun j hj _ => hb.block j hj⟩, .inr ⟨_, rfl, Nat.le_refl _⟩⟩⟩
  refine (show World.ownsRow _ B 2 intE.k _ _ _ from ⟨cellsE_length _ _, Or.inr ⟨w.heap.size, G, _, by rw [hnl], hB, hc, by rw [hnl]; exact hG1, hG2, ?_, ?_⟩⟩)
  ·
   rw [List.size_toArray, List.length_append, hal, hZ']
   show _ = G * 1
   omega
  ·
   rw [hnl, hnew]
   show List.take _ (cellsE intE (T.take k) ++ intE.c x ++ cellsE intE (T.drop k) ++ Z') = _
   exact List.take_left' hal
end Go.Proofs.YtdkhdjickkcaiaaGreat.Rl
namespace Go.Proofs.YtdkhdjickkcaiaaGreat.Rl.Fr
open Go.RowKit Go.Sort Go.Shelf
variable {F : Frm}

structure RpX (F : Frm) (w : World) (B b : Nat) (v9 : Value) (u : Rv) (r : Rp) : Prop where
 c : Bx w b 28 ((rpC r u).setIfInBounds 9 v9)
 o : RpOw w B u r
 apt : RpAp u
 hb : B ≤ b
 fr : FrOk F w b u
theorem RpX.lt {w : World} {B b : Nat} {v9 : Value} {u : Rv} {r : Rp} (h : RpX F w B b v9 u r) : b < w.heap.size := Bx.lt h.c
theorem RpX.le {w : World} {B b : Nat} {v9 : Value} {u : Rv} {r : Rp} (h : RpX F w B b v9 u r) : B ≤ w.heap.size := by have := h.lt; have := h.hb; omega
theorem RpX.kept {w w' : World} {B b : Nat} {v9 : Value} {u : Rv} {r : Rp} (h : RpX F w B b v9 u r) (hb : Below w.heap.size w w') : RpX F w' B b v9 u r := ⟨Bx.kept h.c hb, h.o.kept hb, h.apt, h.hb, h.fr.kept hb⟩
theorem RpX.under {w : World} {B b : Nat} {v9 : Value} {u : Rv} {r : Rp} (h : RpX F w B b v9 u r) : ∀ v ∈ u.rows, ∀ k, v.ownBlock = some k → k < w.heap.size := h.o.has.under
theorem RpX.put {w : World} {B b : Nat} {v9 : Value} {u u' : Rv} {r r' : Rp} (h : RpX F w B b v9 u r) (i : Nat) (v : Value) (hc : ((rpC r u).setIfInBounds 9 v9).setIfInBounds i v = (rpC r' u').setIfInBounds 9 v9) (ho : RpOw w B u' r') (hap : RpAp u') (hfr : FrOk F w b u') : RpX F (w.setCell ⟨b, i, none⟩ v) B b v9 u' r' where
 c := by
  have := Bx.put h.c i v
  rw [hc] at this
  exact this
 o := ho.off fun x hx k hk => Below.heap_setCell _ _ _ _ (ho.neX h.c x hx k hk)
 apt := hap
 hb := h.hb
 fr := hfr.set
theorem RpAt.toX {w : World} {B b : Nat} {u : Rv} {r : Rp} (h : RpAt F w B b u r) {x : Mx} (hx : x ∈ u.T) : RpX F (w.setCell ⟨b, 5, none⟩ x.u) B b u.te { u with l := x.u, te := .slice none 0 0, T := [] } { r with l := x.m.l, te := [] } := by
 obtain ⟨a1, a2, a3, a4, a5⟩ := RpAp.iff.1 h.apt
 have ho : RpOw w B { u with l := x.u, te := .slice none 0 0, T := [] } { r with l := x.m.l, te := [] } := ⟨h.o.tl x hx, h.o.ok, h.o.ch, rfl, OwnsE.none _ _, fun y hy => nomatch hy⟩
 refine ⟨?_, ho.off fun y hy k hk => Below.heap_setCell _ _ _ _ (ho.neX h.c y hy k hk), RpAp.iff.2 ⟨fun y hy => ?_, fun y hy => ?_, fun y hy => ?_, fun y hy => (nomatch hy), List.Pairwise.nil⟩, h.hb, h.fr.of (fun k hk hkb hr => Below.heap_setCell _ _ _ _ hkb) (fun v hv => by
  simp only [Rv.rows, List.map_nil, List.mem_cons, List.not_mem_nil, or_false] at hv
  rcases hv with rfl | rfl | rfl | rfl
  ·
   exact .inl ⟨_, rows_T (List.mem_map_of_mem hx), rfl⟩
  ·
   exact .inl ⟨_, rows_ok u, rfl⟩
  ·
   exact .inl ⟨_, rows_ch u, rfl⟩
  ·
   exact .inr (.inl fun k hk => by cases hk))⟩
 ·
  have := Bx.put h.c 5 x.u
  exact this
 ·
  simp only [List.map_nil, List.mem_cons, List.not_mem_nil, or_false] at hy
  have hm : x.u ∈ u.T.map Mx.u := List.mem_map_of_mem hx
  rcases hy with rfl | rfl | rfl
  ·
   exact fun k h1 h2 => a2 x.u (by simp only [List.mem_cons]; exact .inr (.inr hm)) k h2 h1
  ·
   exact fun k h1 h2 => a3 x.u (by simp only [List.mem_cons]; exact .inr hm) k h2 h1
  ·
   exact fun k h1 h2 => by cases h2
 ·
  simp only [List.map_nil, List.mem_cons, List.not_mem_nil, or_false] at hy
  rcases hy with rfl | rfl
  ·
   exact a2 _ (by simp)
  ·
   exact fun k h1 h2 => by cases h2
 ·
  simp only [List.map_nil, List.mem_cons, List.not_mem_nil, or_false] at hy
  subst hy
  exact fun k h1 h2 => by cases h2
theorem wpList_rxN {ops : Array Oper} {rest : List Oper} {o : Oper} {a : Act} {Q : Exit → Act → World → Prop} {w w1 : World} {B b : Nat} {v9 : Value} {u : Rv} {r : Rp} (h : RpX F w B b v9 u r) (hb : Below w.heap.size w w1) (hgd : o.guard = none) (hd : o.dst = none) (x y : Operand) (ho : o.op = .store 4 x y) (z : Bool)
  (hx : a.eval x = .pointer (some ⟨b, 3, none⟩)) (hy : a.eval y = .bool z) (hh : ∀ W, RpX F W B b v9 u { r with n := z } → Below B w W → wpList Tryz.prog ops Q rest a W) : wpList Tryz.prog ops Q (o :: rest) a w1 :=
 wpList_put1 hgd hd 4 x y ho b 3 _ hx hy Tryz.rsz4 rfl (h.kept hb).c (show 3 < ((rpC r u).setIfInBounds 9 v9).size by rw [Array.size_setIfInBounds, rpC_size]; decide) (hh _ ((h.kept hb).put 3 _ rfl ⟨(h.kept hb).o.l, (h.kept hb).o.ok, (h.kept hb).o.ch, (h.kept hb).o.t, (h.kept hb).o.te, (h.kept hb).o.tl⟩ h.apt (h.kept hb).fr) ((hb.mono h.le).setCell (p := ⟨b, 3, none⟩) h.hb _))
theorem wpList_rxLa {ops : Array Oper} {rest : List Oper} {o : Oper} {a : Act} {Q : Exit → Act → World → Prop} {w w1 : World} {B b : Nat} {v9 : Value} {u : Rv} {r : Rp} (h : RpX F w B b v9 u r) (hb : Below w.heap.size w w1) (hgd : o.guard = none) (hd : o.dst = none) (x y : Operand) (ho : o.op = .store 2 x y) (z : Int)
  (hx : a.eval x = .pointer (some ⟨b, 4, none⟩)) (hy : a.eval y = .int .i64 z) (hh : ∀ W, RpX F W B b v9 u { r with la := z } → Below B w W → wpList Tryz.prog ops Q rest a W) : wpList Tryz.prog ops Q (o :: rest) a w1 :=
 wpList_put1 hgd hd 2 x y ho b 4 _ hx hy Tryz.rsz2 rfl (h.kept hb).c (show 4 < ((rpC r u).setIfInBounds 9 v9).size by rw [Array.size_setIfInBounds, rpC_size]; decide) (hh _ ((h.kept hb).put 4 _ rfl ⟨(h.kept hb).o.l, (h.kept hb).o.ok, (h.kept hb).o.ch, (h.kept hb).o.t, (h.kept hb).o.te, (h.kept hb).o.tl⟩ h.apt (h.kept hb).fr) ((hb.mono h.le).setCell (p := ⟨b, 4, none⟩) h.hb _))
theorem RpX.newCh {w w1 : World} {B b : Nat} {v9 : Value} {u : Rv} {r : Rp} (h : RpX F w B b v9 u r) (hb : Below w.heap.size w w1) {v : Value} {l : List Int} (hv : OwnsN w1 w.heap.size v l) : RpX F (w1.setCell ⟨b, 8, none⟩ v) B b v9 { u with ch := v } { r with ch := l } := by
 have h1 := h.kept hb
 have hn := apN h.under hv.from
 obtain ⟨a1, a2, a3, a4, a5⟩ := RpAp.iff.1 h.apt
 have HV := hv.from
 refine h1.put 8 _ rfl ⟨h1.o.l, h1.o.ok, hv.low h.le, h1.o.t, h1.o.te, h1.o.tl⟩ (RpAp.iff.2 ⟨fun x hx => ?_, fun x hx => ?_, fun x hx => (hn x ?_).2, a4, a5⟩) (h.fr.new hb (by
 exact fun v hv => by
   simp only [Rv.rows, List.mem_cons] at hv ⊢
   rcases hv with rfl | rfl | rfl | hv
   ·
    exact .inl (.inl rfl)
   ·
    exact .inl (.inr (.inl rfl))
   ·
    exact .inr HV
   ·
    exact .inl (.inr (.inr (.inr hv)))
 ))
 ·
  simp only [List.mem_cons] at hx
  rcases hx with rfl | rfl | hx
  ·
   exact a1 _ (by simp)
  ·
   exact (hn _ (rows_l u)).1
  ·
   exact a1 x (by simp only [List.mem_cons]; exact .inr (.inr hx))
 ·
  simp only [List.mem_cons] at hx
  rcases hx with rfl | hx
  ·
   exact (hn _ (rows_ok u)).1
  ·
   exact a2 x (by simp only [List.mem_cons]; exact .inr hx)
 ·
  simp only [List.mem_cons] at hx
  rcases hx with rfl | hx
  ·
   exact rows_te u
  ·
   exact rows_T hx
theorem wpList_rxCh {ops : Array Oper} {rest : List Oper} {o : Oper} {a : Act} {Q : Exit → Act → World → Prop} {w w1 : World} {B b : Nat} {v9 : Value} {u : Rv} {r : Rp} (h : RpX F w B b v9 u r) (hb : Below w.heap.size w w1) (hgd : o.guard = none) (hd : o.dst = none) (x y : Operand) (ho : o.op = .store 25 x y) {v : Value} {l : List Int} (hv : OwnsN w1 w.heap.size v l)
  (hx : a.eval x = .pointer (some ⟨b, 8, none⟩)) (hy : a.eval y = v) (hh : ∀ W, RpX F W B b v9 { u with ch := v } { r with ch := l } → Below B w W → wpList Tryz.prog ops Q rest a W) : wpList Tryz.prog ops Q (o :: rest) a w1 :=
 wpList_put1 hgd hd 25 x y ho b 8 _ hx hy Tryz.rszI (by obtain ⟨_, _, e, _⟩ := hv.form; rw [e]; rfl) (h.kept hb).c (show 8 < ((rpC r u).setIfInBounds 9 v9).size by rw [Array.size_setIfInBounds, rpC_size]; decide) (hh _ (h.newCh hb hv) ((hb.mono h.le).setCell (p := ⟨b, 8, none⟩) h.hb _))
theorem RpX.toAt {w w1 : World} {B b : Nat} {v9 : Value} {u : Rv} {r : Rp} (h : RpX F w B b v9 u r) (hb : Below w.heap.size w w1) {v : Value} (hT : u.T = []) (hr : r.te = []) (hv : OwnsM w1 w.heap.size v []) : RpAt F (w1.setCell ⟨b, 9, none⟩ v) B b { u with te := v, T := [] } { r with te := [] } := by
 have h1 := h.kept hb
 have hn := apN h.under hv.from
 obtain ⟨a1, a2, a3, a4, a5⟩ := RpAp.iff.1 h.apt
 have ho : RpOw w1 B { u with te := v, T := [] } { r with te := [] } := ⟨h1.o.l, h1.o.ok, h1.o.ch, rfl, hv.low h.le, fun y hy => nomatch hy⟩
 refine ⟨?_, ho.off fun y hy k hk => Below.heap_setCell _ _ _ _ (ho.neX h1.c y hy k hk), RpAp.iff.2 ⟨fun y hy => ?_, fun y hy => ?_, fun y hy => ?_, fun y hy => (nomatch hy), List.Pairwise.nil⟩, h.hb, h.fr.of (fun k hk hkb hr => (Below.heap_setCell _ _ _ _ hkb).trans (hb.block k hk)) (fun y hy => by
  simp only [Rv.rows, List.map_nil, List.mem_cons, List.not_mem_nil, or_false] at hy
  rcases hy with rfl | rfl | rfl | rfl
  ·
   exact .inl ⟨_, rows_l u, rfl⟩
  ·
   exact .inl ⟨_, rows_ok u, rfl⟩
  ·
   exact .inl ⟨_, rows_ch u, rfl⟩
  ·
   exact .inr (.inl hv.from))⟩
 ·
  have := Bx.put h1.c 9 v
  exact this
 ·
  simp only [List.map_nil, List.mem_cons, List.not_mem_nil, or_false] at hy
  rcases hy with rfl | rfl | rfl
  ·
   exact a1 _ (by simp)
  ·
   exact a1 _ (by simp)
  ·
   exact (hn _ (rows_l u)).1
 ·
  simp only [List.map_nil, List.mem_cons, List.not_mem_nil, or_false] at hy
  rcases hy with rfl | rfl
  ·
   exact a2 _ (by simp)
  ·
   exact (hn _ (rows_ok u)).1
 ·
  simp only [List.map_nil, List.mem_cons, List.not_mem_nil, or_false] at hy
  subst hy
  exact (hn _ (rows_ch u)).1
theorem wpList_rxTe0 {ops : Array Oper} {rest : List Oper} {o : Oper} {a : Act} {Q : Exit → Act → World → Prop} {w w1 : World} {B b : Nat} {v9 : Value} {u : Rv} {r : Rp} (h : RpX F w B b v9 u r) (hb : Below w.heap.size w w1) (hT : u.T = []) (hr : r.te = []) (hgd : o.guard = none) (hd : o.dst = none) (x y : Operand) (ho : o.op = .store 26 x y) {v : Value} (hv : OwnsM w1 w.heap.size v [])
  (hx : a.eval x = .pointer (some ⟨b, 9, none⟩)) (hy : a.eval y = v) (hh : ∀ W, RpAt F W B b { u with te := v, T := [] } { r with te := [] } → Below B w W → wpList Tryz.prog ops Q rest a W) : wpList Tryz.prog ops Q (o :: rest) a w1 :=
 wpList_put1 hgd hd 26 x y ho b 9 _ hx hy Tryz.rszM (by obtain ⟨_, _, e, _⟩ := hv.form; rw [e]; rfl) (h.kept hb).c (show 9 < ((rpC r u).setIfInBounds 9 v9).size by rw [Array.size_setIfInBounds, rpC_size]; decide) (hh _ (h.toAt hb hT hr hv) ((hb.mono h.le).setCell (p := ⟨b, 9, none⟩) h.hb _))
theorem implBeNX (r : Rp) (u : Rv) (B b : Nat) (v9 : Value) (w : World) (h : RpX F w B b v9 u r) (hT : u.T = []) (hr : r.te = []) (hp : pOk r.p) (hid : 0 ≤ r.id ∧ r.id < r.p) (hv : 0 ≤ r.v ∧ r.v ≤ 20000) (hc : 0 ≤ r.c) (hlen : r.l.length ≤ 1048576) :
  Calls Tryz.prog 123 #[.pointer (some ⟨b, 0, none⟩)] w fun e w' => e = .returned (.tuple #[]) ∧ ∃ u', RpAt F w' B b u' (beN r) ∧ Below B w w' := by
 have H0 : Hid (RpX F w B b v9 u r) := h
 have HT : Hid (u.T = [] ∧ r.te = []) := hH_ (⟨hT, hr⟩)
 have D0 : Hid (Below B w w) := hH_ (Below.refl _ _)
 have jA := fun u W hW => implAnewAt (F := F) { r with n := true, la := r.v, ch := [], te := [] } u B b W hW hp hid hv hc hlen
 clear h hp hid hv hc hlen hT hr
 go_enter Tryz.func123, Tryz.ntmps123
 go_upto_region 1 with (refine wpList_rxN H0.out (Below.refl _ _) rfl rfl _ _ rfl true rfl rfl ?_; intro w1 h1 b1)
 have H1 : Hid (RpX F w1 B b v9 u { r with n := true }) := h1
 have D1 := hH_ (D0.out.trans b1)
 clear h1 b1 H0 D0
 have q2 : w1.cell? ⟨b, 2, none⟩ = some (.int .i64 r.v) := H1.out.c.cell 2
 go_upto_region 2 with (refine wpList_rxLa H1.out (Below.refl _ _) rfl rfl _ _ rfl r.v rfl rfl ?_; intro w2 h2 b2)
 have H2 : Hid (RpX F w2 B b v9 u { r with n := true, la := r.v }) := h2
 have D2 := hH_ (D1.out.trans b2)
 clear h2 b2 H1 D1 q2
 go_upto_region 3 with (refine wpList_rxCh H2.out ((Below.refl _ w2).alloc (Nat.le_refl _) _) rfl rfl _ _ rfl (OwnsE.born w2) rfl rfl ?_; intro w3 h3 b3)
 have H3 : Hid (RpX F w3 B b v9 _ { r with n := true, la := r.v, ch := [] }) := hH_ (h3)
 have D3 := hH_ (D2.out.trans b3)
 clear h3 b3 H2 D2
 go_upto_region 4 with (refine wpList_rxTe0 H3.out ((Below.refl _ w3).alloc (Nat.le_refl _) _) HT.out.1 HT.out.2 rfl rfl _ _ rfl (OwnsE.born w3) rfl rfl ?_; intro w4 h4 b4)
 have H4 : Hid (RpAt F w4 B b _ { r with n := true, la := r.v, ch := [], te := [] }) := hH_ (h4)
 have D4 := hH_ (D3.out.trans b4)
 clear h4 b4 H3 D3
 go_wp2_with fail
 refine (jA _ _ H4.out).mono ?_
 rintro e w5 ⟨rfl, u5, h5, b5⟩
 have H5 : Hid (RpAt F w5 B b u5 (beN r)) := hH_ (h5)
 have D5 := hH_ (D4.out.trans b5)
 clear h5 b5 H4 D4 jA
 go_wp2
 go_end0
 first | exact ⟨rfl, _, H5.out, D5.out⟩ | exact ⟨rfl, ⟨_, H5.out⟩, D5.out⟩
end Go.Proofs.YtdkhdjickkcaiaaGreat.Rl.Fr

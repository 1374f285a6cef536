/-
  The library's FormatInt of any number, by its contract.
  The program's ShowControl by its contract.
  What the listed table of powers of ten gives to the walks of control.
-/
import Derived.Test.YtccnkmffadmfhaaGreatDoorCtlP
import Derived.Test.YtccnkmffadmfhaaGreatDoorShelfX
import Derived.Lib.SmallJoins
import Derived.Lib.QuietBelow
import Derived.BigQuiet
import Derived.Test.YtccnkmffadmfhaaGreatDoorGA
import Derived.Test.YtccnkmffadmfhaaGreatDoorCtlG
import Derived.Test.YtccnkmffadmfhaaGreatDoorCtlR
import Derived.ProofKit
import Derived.Lib.LaidU8
import Derived.MakeChecks
namespace Go.Proofs.YtccnkmffadmfhaaGreatDoor
open Go.RowKit Go.Sort
set_option linter.unusedVariables false

/-- The library's table of powers of ten lies as its text lays it. -/
def TabS (w : World) : Prop := Lib.TabIs Tryz.prog w "internal/strconv.uint64pow10" .u64 Lib.pow10Tab
theorem gPowS : Tryz.prog.globalNamed "internal/strconv.uint64pow10" = some 0 := by kernel_rfl
theorem TabS.low {w w' : World} (h : TabS w) (hb : Below w.heap.size w w') : TabS w' := Go.Joins.tab_stays gPowS h hb (Nat.le_refl _)
theorem low_grow8 (w : World) (k : Nat) (os : Array Obj) : Below w.heap.size w (grow (w.drewN k) os) :=
  ⟨rfl, rfl, rfl, by simp [grow], fun j hj => by simp only [grow]; exact Array.getElem?_append_left hj⟩
theorem fmtS (n : Nat) (hn : n ≤ 9223372036854775807) (w : World) (ht : TabS w) :
    Calls Tryz.prog 37 #[.int .i64 n, .int .i64 10] w fun e w' => e = .returned (.string (itoS n)) ∧ Below w.heap.size w w' := by
  have e : (⟨(Lib.itoa (n : Int)).toArray⟩ : ByteArray) = itoS n := by unfold Lib.itoa itoS; rw [if_neg (by omega), Int.toNat_natCast]
  rw [← e]
  exact (Tryz.formatInt n (by omega) (by omega) w ht).mono fun e w' ⟨h1, k, os, h2⟩ => ⟨h1, by rw [h2]; exact low_grow8 w k os⟩
end Go.Proofs.YtccnkmffadmfhaaGreatDoor
namespace Go.Proofs.YtccnkmffadmfhaaGreatDoor
open Go.RowKit Go.Sort
set_option linter.unusedVariables false
set_option linter.unusedSimpArgs false

set_option maxHeartbeats 1000000 in
theorem implWs (key : ByteArray) (n : Int) (hn : secB n = true) (hkz : key.size ≤ 100) (l : List ByteArray) (hl : l.length ≤ 100) (v : Value) (B : Nat) (w : World) (ht : TabS w) (ho : OwnsE txtE 9 w B v l) (hB : B ≤ w.heap.size) :
    Calls Tryz.prog 17 #[v, .string key, .int .i64 n] w fun e w' => ∃ v', e = .returned v' ∧ OwnsE txtE 9 w' B v' (l ++ numP key n) ∧ Below B w w' := by
  have hs := secB_iff.1 hn
  clear hn
  by_cases h : n = -1
  · have e : l ++ numP key n = l := by unfold numP; rw [if_neg (by omega), List.append_nil]
    rw [e]
    have O0 : Hid (OwnsE txtE 9 w B v l) := ho
    clear e ho hs
    subst h
    go_enter Tryz.func17, Tryz.ntmps17
    go_wp2
    go_ret
    exact ⟨v, rfl, O0.out, Below.refl _ _⟩
  · have h0 : 0 ≤ n := by omega
    obtain ⟨m, rfl⟩ := Int.eq_ofNat_of_zero_le h0
    have e : l ++ numP key (m : Int) = l ++ [key ++ itoS m] := by unfold numP; rw [if_pos h0, Int.toNat_natCast]
    rw [e]
    have hf := fun W hW => fmtS m (by omega) W hW
    have hms := itoS_size (n := m) (by omega)
    generalize itoS m = d at hf hms ⊢
    have O0 : Hid (OwnsE txtE 9 w B v l) := ho
    have T0 : Hid (TabS w) := ht
    have hsz : (key ++ d).size = key.size + d.size := ByteArray.size_append
    clear e ho ht
    go_enter Tryz.func17, Tryz.ntmps17
    go_wp2_with fail
    refine (hf _ T0.out).mono ?_
    rintro e w1 ⟨rfl, hb1⟩
    have O1 : Hid (OwnsE txtE 9 w1 B v l) := O0.out.kept hb1
    have B1 : Hid (Below B w w1) := hb1.mono hB
    have hz1 := hb1.size
    clear hb1 O0 T0 hf
    go_wp2_with (at_builtin; refine wpList_rowE (E := txtE) _ rfl (.tmp 10) (.tmp 15) 34 9 (.string ⟨#[]⟩) 16 Tryz.underlying34 Tryz.infoT9 rfl rfl B v l (by simp [Act.eval, Act.put]) (O1.out.alloc _) ⟨w1.heap.size, 0, Option.none⟩ 1 [key ++ d] (by simp [Act.eval, Act.put]) (fresh_cell (E := txtE) w1 (key ++ d) #[.string (key ++ d)] 9 rfl) (by simp only [List.length_singleton]; unfold maxLen; omega) (by simp only [List.length_singleton]; omega) (by simp only [World.size_alloc]; omega) ?_; intro v6 w6 ho6 hg6 hn6; have O6 : Hid (OwnsE txtE 9 w6 B v6 (l ++ [key ++ d])) := ho6; have G6 : Hid _ := hg6; clear ho6 hg6 hn6)
    go_ret
    exact ⟨v6, rfl, O6.out, belowE (B1.out.alloc (by omega) _) G6.out (by simp only [World.size_alloc]; omega) (O1.out.from)⟩
set_option maxHeartbeats 1000000 in
theorem implWf (key : ByteArray) (b : Bool) (hkz : key.size ≤ 100) (l : List ByteArray) (hl : l.length ≤ 100) (v : Value) (B : Nat) (w : World) (ho : OwnsE txtE 9 w B v l) (hB : B ≤ w.heap.size) :
    Calls Tryz.prog 18 #[v, .string key, .bool b] w fun e w' => ∃ v', e = .returned v' ∧ OwnsE txtE 9 w' B v' (l ++ flgP key b) ∧ Below B w w' := by
  cases b with
  | false =>
    have e : l ++ flgP key false = l := by unfold flgP; rw [if_neg (by decide), List.append_nil]
    rw [e]
    have O0 : Hid (OwnsE txtE 9 w B v l) := ho
    clear e ho
    go_enter Tryz.func18, Tryz.ntmps18
    go_wp2
    go_ret
    exact ⟨v, rfl, O0.out, Below.refl _ _⟩
  | true =>
    have e : l ++ flgP key true = l ++ [key] := by unfold flgP; rw [if_pos rfl]
    rw [e]
    have O1 : Hid (OwnsE txtE 9 w B v l) := ho
    clear e ho
    go_enter Tryz.func18, Tryz.ntmps18
    go_wp2_with (at_builtin; refine wpList_rowE (E := txtE) _ rfl (.tmp 10) (.tmp 12) 34 9 (.string ⟨#[]⟩) 16 Tryz.underlying34 Tryz.infoT9 rfl rfl B v l (by simp [Act.eval, Act.put]) (O1.out.alloc _) ⟨w.heap.size, 0, Option.none⟩ 1 [key] (by simp [Act.eval, Act.put]) (fresh_cell (E := txtE) w key #[.string key] 9 rfl) (by simp only [List.length_singleton]; unfold maxLen; omega) (by simp only [List.length_singleton]; omega) (by simp only [World.size_alloc]; omega) ?_; intro v6 w6 ho6 hg6 hn6; have O6 : Hid (OwnsE txtE 9 w6 B v6 (l ++ [key])) := ho6; have G6 : Hid _ := hg6; clear ho6 hg6 hn6)
    go_ret
    exact ⟨v6, rfl, O6.out, belowE ((Below.refl B w).alloc hB _) G6.out (by simp only [World.size_alloc]; omega) (O1.out.from)⟩
theorem join_data : ∀ (l : List ByteArray) (x : ByteArray), (l.foldl (fun s t => s ++ sep8 ++ t) x).data.toList = x.data.toList ++ Lib.joinTail [44, 32] (l.map (·.data.toList))
  | [], x => by simp [Lib.joinTail]
  | t :: l, x => by
    rw [List.foldl_cons, join_data l]
    simp [Lib.joinTail, sep8]
theorem joinC_is (l : List ByteArray) : joinC l = ⟨(Lib.join (l.map (·.data.toList)) [44, 32]).toArray⟩ := by
  cases l with
  | nil => rfl
  | cons x l =>
    apply ext_bytes
    show (l.foldl (fun s t => s ++ sep8 ++ t) x).data.toList = _
    rw [join_data, List.map_cons, Lib.join_cons]
theorem implJoin (l : List ByteArray) (v : Value) (B : Nat) (w : World) (ho : OwnsE txtE 9 w B v l) (hl : l.length ≤ 100) (hz : (joinC l).size ≤ 10000) :
    Calls Tryz.prog 19 #[v, .string ⟨#[44, 32]⟩] w fun e w' => e = .returned (.string (joinC l)) ∧ Below w.heap.size w w' := by
  have ho' := ho
  obtain ⟨a, cap, rfl, h1, h2, h3⟩ := ho'.form
  cases l with
  | nil =>
    refine (Tryz.strings_Join_none a cap ⟨#[44, 32]⟩ w).mono ?_
    rintro e w' ⟨rfl, rfl⟩
    exact ⟨rfl, Below.refl _ _⟩
  | cons x l =>
    rcases h3 with ⟨rfl, rfl⟩ | ⟨g, rfl⟩
    · simp at h1
    · have hj := joinC_is (x :: l)
      have k := Tryz.strings_Join g 0 cap (x :: l) ⟨#[44, 32]⟩ w (fun j y hy => by
        obtain ⟨hj, rfl⟩ := List.getElem?_eq_some_iff.1 hy
        have := ho.at (j := j) (i := 0) hj (u := .string (x :: l)[j]) rfl
        simp only [txtE, Nat.mul_one, Nat.add_zero] at this
        rw [Nat.zero_add]; exact this) (ho.under g rfl) (by omega) h1 (by
        rw [hj] at hz
        have : (Lib.join ((x :: l).map (·.data.toList)) [44, 32]).toArray.size ≤ 10000 := hz
        simp only [List.size_toArray] at this
        exact Nat.le_trans this (by omega))
      rw [hj]
      exact k
theorem numP_l1 (k : ByteArray) (n : Int) : (numP k n).length ≤ 1 := by unfold numP; split <;> simp
theorem flgP_l1 (k : ByteArray) (b : Bool) : (flgP k b).length ≤ 1 := by unfold flgP; split <;> simp
theorem retX {a b : ByteArray} (h : a = b) : Ending.returned (.string a) = .returned (.string b) := by rw [h]
set_option maxHeartbeats 4000000 in
theorem implShC (x : Ct) (w : World) (ht : TabS w) : Calls Tryz.prog 6 #[ctV x] w fun e w' => e = .returned (.string (shC x)) ∧ Below w.heap.size w w' := by
  have hk := fun W => implCok x W
  have hsz := shC_size x
  have HY : Hid (ctB x = true → shC x = joinC (prtC x)) := fun h => by unfold shC; rw [if_pos h]
  have HN : Hid (ctB x = false → (⟨#[]⟩ : ByteArray) = shC x) := fun h => by unfold shC; rw [if_neg (by rw [h]; decide)]
  have HC : Hid (ctB x = true → secB x.a = true ∧ secB x.s = true ∧ secB x.t = true) := fun h => ctB_iff.1 h
  have HP : Hid (prtC x = ((((((([] ++ numP nmA x.a) ++ numP nmS x.s) ++ numP nmT x.t) ++ flgP wdS x.ns) ++ flgP wdC x.nc) ++ flgP wdP x.pr) ++ flgP wdM x.mu)) := by show _ = _; unfold prtC; simp only [List.nil_append, List.append_assoc]
  generalize shC x = R at hsz HY HN ⊢
  generalize prtC x = pr at HY HP
  generalize ctB x = b at hk HY HN HC
  have X0 : Hid (CtB (w.alloc (.cells #[.int .i64 x.a, .int .i64 x.s, .int .i64 x.t, .bool x.ns, .bool x.nc, .bool x.pr, .bool x.mu] 25)) w.heap.size x) := CtB.born w x 25
  have B0 : Hid (Below w.heap.size w (w.alloc (.cells #[.int .i64 x.a, .int .i64 x.s, .int .i64 x.t, .bool x.ns, .bool x.nc, .bool x.pr, .bool x.mu] 25))) := (Below.refl _ w).alloc (Nat.le_refl _) _
  have TT : Hid (∀ W, Below w.heap.size w W → TabS W) := fun W hW => ht.low hW
  clear ht
  unfold ctV at hk ⊢
  go_enter Tryz.func6, Tryz.ntmps6
  go_wp2_with fail
  refine (hk _).mono ?_
  rintro e w1 ⟨rfl, hb1⟩
  have X1 : Hid (CtB w1 w.heap.size x) := X0.out.kept hb1
  have B1 : Hid (Below w.heap.size w w1) := past9 B0.out hb1
  clear hb1 X0 B0 hk
  cases b with
  | false =>
    have HR : Hid ((⟨#[]⟩ : ByteArray) = R) := HN.out rfl
    clear HY HN HC HP
    go_wp2
    go_ret
    exact ⟨retX HR.out, B1.out⟩
  | true =>
    have HR : Hid (R = joinC pr) := HY.out rfl
    obtain ⟨s1, s2, s3⟩ := HC.out rfl
    clear HY HN HC
    have O1 : Hid (OwnsE txtE 9 (w1.alloc (.cells #[] 9)) w1.heap.size (.slice (some ⟨w1.heap.size, 0, Option.none⟩) 0 0) []) := OwnsE.born w1
    have X2 : Hid (CtB (w1.alloc (.cells #[] 9)) w.heap.size x) := X1.out.alloc _
    have B2 : Hid (Below w.heap.size w (w1.alloc (.cells #[] 9))) := B1.out.alloc B1.out.size _
    have hz2 : w1.heap.size ≤ (w1.alloc (.cells #[] 9)).heap.size := by simp
    have hxw : w.heap.size < w1.heap.size := X1.out.hi
    have hcell := X2.out.all
    obtain ⟨x0, x1, x2, x3, x4, x5, x6⟩ := hcell
    clear X1
    have c1 := implWs nmA x.a s1 (by decide) [] (by simp only [List.length_append, List.length_nil]; have := numP_l1 nmA x.a; have := numP_l1 nmS x.s; omega) _ _ _ (TT.out _ B2.out) O1.out hz2
    unfold nmA at c1
    go_wp2_with fail
    refine c1.mono ?_
    rintro e u1 ⟨v1, rfl, ho, hb⟩
    have O2 : Hid (OwnsE txtE 9 u1 w1.heap.size v1 ([] ++ numP nmA x.a)) := ho
    have X3 : Hid (CtB u1 w.heap.size x) := X2.out.same (hb.block w.heap.size hxw) (by have := hb.size; omega)
    have B3 : Hid (Below w.heap.size w u1) := B2.out.trans (hb.mono (by omega))
    have hz3 : w1.heap.size ≤ u1.heap.size := by have := hb.size; omega
    clear ho hb c1 O1 X2 B2 x0 x1 x2 x3 x4 x5 x6
    obtain ⟨x0, x1, x2, x3, x4, x5, x6⟩ := X3.out.all
    have c2 := implWs nmS x.s s2 (by decide) ([] ++ numP nmA x.a) (by simp only [List.length_append, List.length_nil]; have := numP_l1 nmA x.a; have := numP_l1 nmS x.s; omega) _ _ _ (TT.out _ B3.out) O2.out hz3
    unfold nmS at c2
    go_wp2_with fail
    refine c2.mono ?_
    rintro e u2 ⟨v2, rfl, ho, hb⟩
    have O3 : Hid (OwnsE txtE 9 u2 w1.heap.size v2 (([] ++ numP nmA x.a) ++ numP nmS x.s)) := ho
    have X4 : Hid (CtB u2 w.heap.size x) := X3.out.same (hb.block w.heap.size hxw) (by have := hb.size; omega)
    have B4 : Hid (Below w.heap.size w u2) := B3.out.trans (hb.mono (by omega))
    have hz4 : w1.heap.size ≤ u2.heap.size := by have := hb.size; omega
    clear ho hb c2 O2 X3 B3 x0 x1 x2 x3 x4 x5 x6
    obtain ⟨x0, x1, x2, x3, x4, x5, x6⟩ := X4.out.all
    have c3 := implWs nmT x.t s3 (by decide) (([] ++ numP nmA x.a) ++ numP nmS x.s) (by simp only [List.length_append, List.length_nil]; have := numP_l1 nmA x.a; have := numP_l1 nmS x.s; omega) _ _ _ (TT.out _ B4.out) O3.out hz4
    unfold nmT at c3
    go_wp2_with fail
    refine c3.mono ?_
    rintro e u3 ⟨v3, rfl, ho, hb⟩
    have O4 : Hid (OwnsE txtE 9 u3 w1.heap.size v3 ((([] ++ numP nmA x.a) ++ numP nmS x.s) ++ numP nmT x.t)) := ho
    have X5 : Hid (CtB u3 w.heap.size x) := X4.out.same (hb.block w.heap.size hxw) (by have := hb.size; omega)
    have B5 : Hid (Below w.heap.size w u3) := B4.out.trans (hb.mono (by omega))
    have hz5 : w1.heap.size ≤ u3.heap.size := by have := hb.size; omega
    clear ho hb c3 O3 X4 B4 x0 x1 x2 x3 x4 x5 x6
    obtain ⟨x0, x1, x2, x3, x4, x5, x6⟩ := X5.out.all
    have c4 := implWf wdS x.ns (by decide) ((([] ++ numP nmA x.a) ++ numP nmS x.s) ++ numP nmT x.t) (by simp only [List.length_append, List.length_nil]; have := numP_l1 nmA x.a; have := numP_l1 nmS x.s; have := numP_l1 nmT x.t; have := flgP_l1 wdS x.ns; have := flgP_l1 wdC x.nc; have := flgP_l1 wdP x.pr; omega) _ _ _ O4.out hz5
    unfold wdS at c4
    go_wp2_with fail
    refine c4.mono ?_
    rintro e u4 ⟨v4, rfl, ho, hb⟩
    have O5 : Hid (OwnsE txtE 9 u4 w1.heap.size v4 (((([] ++ numP nmA x.a) ++ numP nmS x.s) ++ numP nmT x.t) ++ flgP wdS x.ns)) := ho
    have X6 : Hid (CtB u4 w.heap.size x) := X5.out.same (hb.block w.heap.size hxw) (by have := hb.size; omega)
    have B6 : Hid (Below w.heap.size w u4) := B5.out.trans (hb.mono (by omega))
    have hz6 : w1.heap.size ≤ u4.heap.size := by have := hb.size; omega
    clear ho hb c4 O4 X5 B5 x0 x1 x2 x3 x4 x5 x6
    obtain ⟨x0, x1, x2, x3, x4, x5, x6⟩ := X6.out.all
    have c5 := implWf wdC x.nc (by decide) (((([] ++ numP nmA x.a) ++ numP nmS x.s) ++ numP nmT x.t) ++ flgP wdS x.ns) (by simp only [List.length_append, List.length_nil]; have := numP_l1 nmA x.a; have := numP_l1 nmS x.s; have := numP_l1 nmT x.t; have := flgP_l1 wdS x.ns; have := flgP_l1 wdC x.nc; have := flgP_l1 wdP x.pr; omega) _ _ _ O5.out hz6
    unfold wdC at c5
    go_wp2_with fail
    refine c5.mono ?_
    rintro e u5 ⟨v5, rfl, ho, hb⟩
    have O6 : Hid (OwnsE txtE 9 u5 w1.heap.size v5 ((((([] ++ numP nmA x.a) ++ numP nmS x.s) ++ numP nmT x.t) ++ flgP wdS x.ns) ++ flgP wdC x.nc)) := ho
    have X7 : Hid (CtB u5 w.heap.size x) := X6.out.same (hb.block w.heap.size hxw) (by have := hb.size; omega)
    have B7 : Hid (Below w.heap.size w u5) := B6.out.trans (hb.mono (by omega))
    have hz7 : w1.heap.size ≤ u5.heap.size := by have := hb.size; omega
    clear ho hb c5 O5 X6 B6 x0 x1 x2 x3 x4 x5 x6
    obtain ⟨x0, x1, x2, x3, x4, x5, x6⟩ := X7.out.all
    have c6 := implWf wdP x.pr (by decide) ((((([] ++ numP nmA x.a) ++ numP nmS x.s) ++ numP nmT x.t) ++ flgP wdS x.ns) ++ flgP wdC x.nc) (by simp only [List.length_append, List.length_nil]; have := numP_l1 nmA x.a; have := numP_l1 nmS x.s; have := numP_l1 nmT x.t; have := flgP_l1 wdS x.ns; have := flgP_l1 wdC x.nc; have := flgP_l1 wdP x.pr; omega) _ _ _ O6.out hz7
    unfold wdP at c6
    go_wp2_with fail
    refine c6.mono ?_
    rintro e u6 ⟨v6, rfl, ho, hb⟩
    have O7 : Hid (OwnsE txtE 9 u6 w1.heap.size v6 (((((([] ++ numP nmA x.a) ++ numP nmS x.s) ++ numP nmT x.t) ++ flgP wdS x.ns) ++ flgP wdC x.nc) ++ flgP wdP x.pr)) := ho
    have X8 : Hid (CtB u6 w.heap.size x) := X7.out.same (hb.block w.heap.size hxw) (by have := hb.size; omega)
    have B8 : Hid (Below w.heap.size w u6) := B7.out.trans (hb.mono (by omega))
    have hz8 : w1.heap.size ≤ u6.heap.size := by have := hb.size; omega
    clear ho hb c6 O6 X7 B7 x0 x1 x2 x3 x4 x5 x6
    obtain ⟨x0, x1, x2, x3, x4, x5, x6⟩ := X8.out.all
    have c7 := implWf wdM x.mu (by decide) (((((([] ++ numP nmA x.a) ++ numP nmS x.s) ++ numP nmT x.t) ++ flgP wdS x.ns) ++ flgP wdC x.nc) ++ flgP wdP x.pr) (by simp only [List.length_append, List.length_nil]; have := numP_l1 nmA x.a; have := numP_l1 nmS x.s; have := numP_l1 nmT x.t; have := flgP_l1 wdS x.ns; have := flgP_l1 wdC x.nc; have := flgP_l1 wdP x.pr; omega) _ _ _ O7.out hz8
    unfold wdM at c7
    go_wp2_with fail
    refine c7.mono ?_
    rintro e u7 ⟨v7, rfl, ho, hb⟩
    have O8 : Hid (OwnsE txtE 9 u7 w1.heap.size v7 ((((((([] ++ numP nmA x.a) ++ numP nmS x.s) ++ numP nmT x.t) ++ flgP wdS x.ns) ++ flgP wdC x.nc) ++ flgP wdP x.pr) ++ flgP wdM x.mu)) := ho
    have X9 : Hid (CtB u7 w.heap.size x) := X8.out.same (hb.block w.heap.size hxw) (by have := hb.size; omega)
    have B9 : Hid (Below w.heap.size w u7) := B8.out.trans (hb.mono (by omega))
    have hz9 : w1.heap.size ≤ u7.heap.size := by have := hb.size; omega
    clear ho hb c7 O7 X8 B8 x0 x1 x2 x3 x4 x5 x6
    obtain ⟨x0, x1, x2, x3, x4, x5, x6⟩ := X9.out.all
    have hlp : pr.length ≤ 100 := by rw [HP.out]; simp only [List.length_append]; have := numP_l1 nmA x.a; have := numP_l1 nmS x.s; have := numP_l1 nmT x.t; have := flgP_l1 wdS x.ns; have := flgP_l1 wdC x.nc; have := flgP_l1 wdP x.pr; have := flgP_l1 wdM x.mu; simp only [List.length_nil]; omega
    have OZ : Hid (OwnsE txtE 9 u7 w1.heap.size v7 pr) := by show OwnsE _ _ _ _ _ _; rw [HP.out]; exact O8.out
    have hjz : (joinC pr).size ≤ 10000 := by rw [← HR.out]; omega
    go_wp2_with fail
    refine (implJoin pr v7 _ _ OZ.out hlp hjz).mono ?_
    rintro e w9 ⟨rfl, hb9⟩
    have B10 : Hid (Below w.heap.size w w9) := past9 B9.out hb9
    clear hb9
    go_wp2
    go_ret
    exact ⟨retX HR.out.symm, B10.out⟩
end Go.Proofs.YtccnkmffadmfhaaGreatDoor
namespace Go.Proofs.YtccnkmffadmfhaaGreatDoor
open Go

theorem gPowTypeS : (Tryz.prog.globals[0]?).map (·.type) = some 101 := by kernel_rfl
theorem underPAS : Tryz.prog.underlying 101 = some (.array 20 88) := by kernel_rfl
theorem underPUS : Tryz.prog.underlying 88 = some (.int .u64) := by kernel_rfl
theorem cellsPAS : Tryz.prog.cellsOf 101 = 20 := by kernel_rfl
theorem cellsPUS : Tryz.prog.cellsOf 88 = 1 := by kernel_rfl
theorem powS_is : (Rows.laid_internal_strconv_uint64pow10 : DataW Unit) = Lib.tabData .u64 Lib.pow10Tab := rfl
theorem powS_reads {W : World} (h : Lib.VarReads Tryz.prog W "internal/strconv.uint64pow10" Rows.laid_internal_strconv_uint64pow10) : TabS W := by
  obtain ⟨g, t, cs, fuel, p, hg, ht, hv, hd⟩ := h
  obtain rfl := Option.some.inj (gPowS.symm.trans hg)
  obtain rfl := Option.some.inj (gPowTypeS.symm.trans ht)
  rw [powS_is] at hd
  unfold TabS Lib.TabIs
  rw [hv, ← Lib.cells_of_tab underPAS underPUS cellsPUS cellsPAS hd]
theorem controls_laid {W : World} (h : laidMetH Tryz.prog Rows.fnControlsRow.laid W) : TabS W := by
  rw [MakeChecks.laidMetH_plain _ _ _ (by kernel_rfl)] at h
  exact powS_reads (Lib.laidMet.reads h (.tail _ (.tail _ (.head _))))
end Go.Proofs.YtccnkmffadmfhaaGreatDoor

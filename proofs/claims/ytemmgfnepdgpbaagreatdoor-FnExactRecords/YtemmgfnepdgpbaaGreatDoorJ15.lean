/-
  The program's row of numbers, by its contract.
-/
import Derived.Test.YtemmgfnepdgpbaaGreatDoorJ14
import Derived.Test.YtemmgfnepdgpbaaGreatDoorJ13
import Derived.Test.YtemmgfnepdgpbaaGreatDoorShelfA
import Derived.Laws.OwnMore
namespace Go.Proofs.YtemmgfnepdgpbaaGreatDoor
open Go.RowKit Go.Sort St
set_option linter.unusedVariables false
set_option linter.unusedSimpArgs false

theorem Tryz.info9s : (Tryz.prog.info? 9).map (fun i => (i.zero, i.size, i.bytes)) = some (some (.string ⟨#[]⟩), 1, 16) := by kernel_rfl
theorem txt_atS {w : World} {B g n cap : Nat} {l : List ByteArray} (h : OwnsE txtE 9 w B (.slice (some ⟨g, 0, Option.none⟩) n cap) l) (j : Nat) (hj : j < l.length) : w.cell? ⟨g, j, Option.none⟩ = some (.string l[j]) := by
  have := h.at (i := 0) hj (u := .string l[j]) rfl
  rw [show j * txtE.k + 0 = j from by show j * 1 + 0 = j; omega] at this
  exact this
theorem txt_putS {w : World} {B g n cap : Nat} {l : List ByteArray} (hn : n = l.length) (h : OwnsE txtE 9 w B (.slice (some ⟨g, 0, Option.none⟩) n cap) l) {j : Nat} (hj : j < l.length) (x : ByteArray) : OwnsE txtE 9 (w.setCell ⟨g, j, Option.none⟩ (.string x)) B (.slice (some ⟨g, 0, Option.none⟩) n cap) (l.set j x) := by
  have := h.put hn hj (i := 0) (by decide) (.string x) x rfl
  rw [show j * txtE.k + 0 = j from by show j * 1 + 0 = j; omega] at this
  exact this
theorem cells_atS (l : List ByteArray) (j : Nat) (hj : j < l.length) : (cellsE txtE l)[j]? = some (.string l[j]) := by
  have := cellsE_at txtE l j hj 0 (by decide)
  rw [show j * txtE.k + 0 = j from by show j * 1 + 0 = j; omega] at this
  exact this
theorem madeS (n : Nat) : (madeCells (Value.cells (.string ⟨#[]⟩)) (n * 1)).toList = cellsE txtE (List.replicate n ⟨#[]⟩) := by
  rw [Nat.mul_one]
  apply List.ext_getElem?
  intro j
  by_cases hj : j < n
  · have e : (madeCells (Value.cells (.string ⟨#[]⟩)) n).toList[j]? = some (.string ⟨#[]⟩) := by simp [madeCells, hj, Value.cells, Nat.mod_one]
    rw [e, cells_atS (List.replicate n ⟨#[]⟩) j (by simpa using hj)]
    simp
  · rw [List.getElem?_eq_none (by simp [madeCells]; omega), List.getElem?_eq_none (by rw [cellsE_length]; simp; show n * 1 ≤ j; omega)]
/-- Shown so far: the first j numbers, and behind them nothing. -/
def turnS (ns : List Int) (j : Nat) : List ByteArray := (ns.take j).map (fun n => txtL (dd n)) ++ List.replicate (ns.length - j) ⟨#[]⟩
theorem turnS_len {ns : List Int} {j : Nat} (hj : j ≤ ns.length) : (turnS ns j).length = ns.length := by unfold turnS; simp; omega
theorem turnS_zero (ns : List Int) : turnS ns 0 = List.replicate ns.length ⟨#[]⟩ := by simp [turnS]
theorem turnS_all (ns : List Int) : turnS ns ns.length = ns.map (fun n => txtL (dd n)) := by simp [turnS]
theorem turnS_next {ns : List Int} {j : Nat} (hj : j < ns.length) : (turnS ns j).set j (txtL (dd ns[j])) = turnS ns (j + 1) := by
  unfold turnS
  have e : ((ns.take j).map (fun n => txtL (dd n))).length = j := by simp; omega
  rw [List.set_append_right _ _ (by omega), e, Nat.sub_self, List.take_succ_eq_append_getElem hj, List.map_append, List.append_assoc]
  congr 1
  rw [show ns.length - j = (ns.length - (j + 1)) + 1 from by omega, List.replicate_succ, List.set_cons_zero]
  rfl
/-- What is shown of a row of numbers. -/
def rwL (ns : List Int) : List UInt8 := Lib.join (ns.map dd) [32] ++ [10]
theorem rw_text (ns : List Int) : (⟨(Lib.join ((ns.map (fun n => txtL (dd n))).map (·.data.toList)) (⟨#[32]⟩ : ByteArray).data.toList).toArray⟩ : ByteArray) ++ ⟨#[10]⟩ = txtL (rwL ns) := by
  unfold rwL txtL
  rw [List.map_map]
  apply ByteArray.ext
  apply Array.ext'
  simp
  rfl
theorem join_lenS : ∀ (l : List (List UInt8)), (∀ x ∈ l, x.length ≤ 15) → (Lib.join l [32]).length ≤ 16 * l.length
  | [], _ => by simp [Lib.join, List.intercalate]
  | [x], h => by
    have := h x (by simp)
    simp [Lib.join, List.intercalate]
    omega
  | x :: y :: r, h => by
    have i := join_lenS (y :: r) (fun z hz => h z (List.mem_cons_of_mem _ hz))
    have hx := h x (by simp)
    have e : Lib.join (x :: y :: r) [32] = x ++ [32] ++ Lib.join (y :: r) [32] := by simp [Lib.join, List.intercalate, List.intersperse]
    rw [e]
    simp at i ⊢
    omega
theorem rw_2 (a b : Int) : rwL [a, b] = (dd a ++ 32 :: dd b) ++ [10] := by simp [rwL, Lib.join, List.intercalate]
set_option maxRecDepth 100000 in
set_option maxHeartbeats 2000000 in
theorem implShR (g : Nat) (ns : List Int) (w : World) (hn : ns.length ≤ 4) (hp : 0 < ns.length) (hc : ∀ j (hj : j < ns.length), w.cell? ⟨g, j, none⟩ = some (.int .i64 ns[j])) (hg : g < w.heap.size) (hf : ∀ n ∈ ns, few n) (ht : TabS w) :
    Calls Tryz.prog 26 #[.slice (some ⟨g, 0, none⟩) ns.length ns.length] w fun e w' => e = .returned (.string (txtL (rwL ns))) ∧ Below w.heap.size w w' := by
  have HC : Hid (∀ j (hj : j < ns.length), w.cell? ⟨g, j, none⟩ = some (.int .i64 ns[j])) := hc
  have HF : Hid (∀ n ∈ ns, few n) := hf
  have HT : Hid (TabS w) := ht
  have hll : ns.length ≤ 9223372036854775807 := by omega
  obtain ⟨i0, hi, hz0, hz1, hz2⟩ := info_parts Tryz.info9s
  obtain ⟨w0, hrun, hown, hgr⟩ := run_make_full (P := Tryz.prog) w w.heap.size 39 9 i0 (.string ⟨#[]⟩) 1 Tryz.underlying39 hi hz0 hz1 .i64 .i64 ns.length (by rw [hz2]; omega) (by unfold maxLen; omega) (Nat.le_refl _)
  have hown0 : Hid (OwnsE txtE 9 w0 w.heap.size (.slice (some ⟨w.heap.size, 0, Option.none⟩) ns.length ns.length) (turnS ns 0)) := by
    rw [madeS] at hown
    show w0.ownsRow _ _ 1 _ _ _
    rw [turnS_len (Nat.zero_le _), turnS_zero]
    exact hown
  have hb0 : Hid (Below w.heap.size w w0) := (show Below _ _ _ from (Below.refl _ w).grown hgr (Nat.le_refl _) (fun j hj => by cases hj))
  clear hown hgr hi hz0 hz1 hz2 hc hf ht
  go_enter Tryz.func26, Tryz.ntmps26
  go_wp2
  go_loopw [11] (fun i wr => ∃ j : Nat, j ≤ ns.length ∧ i = .int .i64 j ∧ Hid (OwnsE txtE 9 wr w.heap.size (.slice (some ⟨w.heap.size, 0, Option.none⟩) ns.length ns.length) (turnS ns j)) ∧ Hid (Below w.heap.size w wr)) (fun i _ => ns.length - (intOf i).toNat)
  case atStart => exact ⟨0, Nat.zero_le _, rfl, hown0, hb0⟩
  case round =>
    clear hown0 hb0 hrun
    obtain ⟨j, hj, rfl, ho, hb0⟩ := hrel
    by_cases hlt : j < ns.length
    · have c1 := (hb0.out.cell (p := ⟨g, j, none⟩) hg).trans (HC.out j hlt)
      have hji : (j : Int) < (ns.length : Int) := by omega
      have hfm := fmtD ns[j] (HF.out _ (List.getElem_mem hlt)) wr (HT.out.low hb0.out)
      have HNX : Hid ((turnS ns j).set j (txtL (dd ns[j])) = turnS ns (j + 1)) := turnS_next hlt
      have HLN : Hid ((turnS ns j).length = ns.length) := turnS_len hj
      generalize ns[j] = x at c1 hfm HNX
      generalize txtL (dd x) = y at hfm HNX
      go_wp2_with fail
      refine hfm.mono ?_
      rintro e w1 ⟨rfl, hb1⟩
      have ho1 := ho.out.kept hb1
      have hlt2 : j < (turnS ns j).length := by rw [HLN.out]; exact hlt
      have d1 := txt_atS ho1 j hlt2
      have f1 := ho1.free HLN.out.symm j
      have HP : Hid (OwnsE txtE 9 (w1.setCell ⟨w.heap.size, j, none⟩ (.string y)) w.heap.size (.slice (some ⟨w.heap.size, 0, Option.none⟩) ns.length ns.length) (turnS ns (j + 1))) := by
        have := txt_putS HLN.out.symm ho1 hlt2 y
        rw [HNX.out] at this
        exact this
      have HB : Hid (Below w.heap.size w (w1.setCell ⟨w.heap.size, j, none⟩ (.string y))) := (show Below _ _ _ from (hb0.out.trans (hb1.mono hb0.out.size)).setCell (Nat.le_refl _) _)
      generalize ((turnS ns j)[j]'hlt2) = dd0 at d1
      clear hb1 hb0 ho ho1 HNX HLN hlt2
      go_wp2
      go_roundw
      case rel => exact ⟨j + 1, by omega, by go_num, HP, HB⟩
      case measure => simp [intOf]; omega
    · obtain rfl : j = ns.length := by omega
      have HO := ho.out
      rw [turnS_all] at HO
      have hln : (ns.map fun n => txtL (dd n)).length = ns.length := List.length_map ..
      have hjn := Tryz.strings_Join w.heap.size 0 ns.length (ns.map fun n => txtL (dd n)) ⟨#[32]⟩ wr (fun j x hx => by
        obtain ⟨hj, rfl⟩ := List.getElem?_eq_some_iff.1 hx
        rw [Nat.zero_add]
        exact txt_atS HO j hj) (HO.under _ rfl) (by rw [hln]; omega) (by rw [hln]; exact Nat.le_refl _) (by
        have := join_lenS (ns.map dd) (fun x hx => by
          obtain ⟨n, hn, rfl⟩ := List.mem_map.1 hx
          exact dd_len (HF.out n hn).2)
        rw [List.length_map] at this
        rw [List.map_map]
        show (Lib.join (ns.map dd) [32]).length ≤ _
        omega)
      rw [hln] at hjn
      have hql := join_lenS (ns.map dd) (fun x hx => by
        obtain ⟨n, hn, rfl⟩ := List.mem_map.1 hx
        exact dd_len (HF.out n hn).2)
      rw [List.length_map] at hql
      have HQ : Hid (_ = txtL (rwL ns)) := rw_text ns
      have hqs : (⟨(Lib.join ((ns.map (fun n => txtL (dd n))).map (·.data.toList)) (⟨#[32]⟩ : ByteArray).data.toList).toArray⟩ : ByteArray).size ≤ 64 := by
        rw [List.map_map]
        show (Lib.join (ns.map dd) [32]).toArray.size ≤ 64
        simp
        omega
      generalize (⟨(Lib.join ((ns.map (fun n => txtL (dd n))).map (·.data.toList)) (⟨#[32]⟩ : ByteArray).data.toList).toArray⟩ : ByteArray) = q at hjn HQ hqs
      clear HO ho HC HF HT hln
      go_wp2_with fail
      refine hjn.mono ?_
      rintro e w1 ⟨rfl, hb1⟩
      have hq1 : (q ++ (⟨#[10]⟩ : ByteArray)).size = q.size + 1 := by rw [ByteArray.size_append]; rfl
      go_wp2
      go_ret
      exact ⟨congrArg (fun x => Ending.returned (.string x)) HQ.out, hb0.out.trans (hb1.mono hb0.out.size)⟩
theorem lit_num (W : World) (ns : List Int) (j : Nat) (hj : j < ns.length) : (W.alloc (.cells (ns.map (Value.int .i64)).toArray 2)).cell? ⟨W.heap.size, j, none⟩ = some (.int .i64 ns[j]) := by
  rw [World.cell?_alloc_mark]
  simp [hj]
theorem implShRn (ns : List Int) (hn : ns.length ≤ 4) (hp : 0 < ns.length) (hf : ∀ n ∈ ns, few n) (W : World) (B : Nat) (hB : B = W.heap.size) (ht : TabS W) :
    Calls Tryz.prog 26 #[.slice (some ⟨B, 0, none⟩) ns.length ns.length] (W.alloc (.cells (ns.map (Value.int .i64)).toArray 2)) fun e w' => e = .returned (.string (txtL (rwL ns))) ∧ Below W.heap.size W w' := by
  subst hB
  have hb := (Below.refl W.heap.size W).alloc (Nat.le_refl _) (.cells (ns.map (Value.int .i64)).toArray 2)
  refine (implShR W.heap.size ns _ hn hp (lit_num W ns) (by simp) hf (ht.low hb)).mono ?_
  rintro e w' ⟨rfl, h⟩
  exact ⟨rfl, hb.trans (h.mono hb.size)⟩
theorem implShR2 (a b : Int) (ha : few a) (hb : few b) (W : World) (B : Nat) (hB : B = W.heap.size) (ht : TabS W) :
    Calls Tryz.prog 26 #[.slice (some ⟨B, 0, none⟩) 2 2] (W.alloc (.cells #[.int .i64 a, .int .i64 b] 2)) fun e w' => e = .returned (.string (txtL (rwL [a, b]))) ∧ Below W.heap.size W w' :=
  implShRn [a, b] (by simp) (by simp) (by simp [ha, hb]) W B hB ht
end Go.Proofs.YtemmgfnepdgpbaaGreatDoor

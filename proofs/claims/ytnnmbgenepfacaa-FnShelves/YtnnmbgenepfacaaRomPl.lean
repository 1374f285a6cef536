/-
  The specification's Place.
-/
import Derived.Test.YtnnmbgenepfacaaRpP
import Derived.Test.YtnnmbgenepfacaaRomY
namespace Go.Proofs.Ytnnmbgenepfacaa
open Go.RowKit Go.Sort Rom
set_option linter.unusedVariables false
set_option linter.unusedSimpArgs false

/-- One text appended. -/
theorem wpList_pushX {ops : Array Oper} {rest : List Oper} {o : Oper} {a : Act} {Q : Exit → Act → World → Prop} (w : World) (hgd : o.guard = none) (s x : Operand)
    (ho : o.op = .call { callee := .builtin .append, args := #[s, x], argTypes := #[37, 37] }) (B : Nat) (v : Value) (l : List ByteArray) (t : ByteArray) (hs : a.eval s = v) (hown : OwnsX w B v l)
    (hx : a.eval x = .slice (some ⟨w.heap.size, 0, none⟩) 1 1) (hlen : l.length ≤ 1000000) (hB : B ≤ w.heap.size)
    (h : ∀ v' w', OwnsX w' B v' (l ++ [t]) → w.grownBy w' v.ownBlock → wpList Try.prog ops Q rest (a.put o.dst v') w') :
    wpList Try.prog ops Q (o :: rest) a (w.alloc (.cells #[.string t] 9)) := by
  refine wpList_rowE (E := txtE) _ hgd s x 37 9 (.string ⟨#[]⟩) 16 Try.underlying37 Try.info9 rfl ho B v l hs (OwnsE.alloc hown _) ⟨w.heap.size, 0, none⟩ 1 [t] hx (fresh_cell w t #[.string t] 9 rfl) (by unfold maxLen; simp; omega) (by simp; omega) (by simp; omega) ?_
  intro v' w' h1 h2 h3
  refine h v' w' h1 ⟨h2.os, h2.tape, h2.output, ?_, ?_⟩
  · have := h2.size
    simp at this
    omega
  · intro k hk hne
    rw [h2.block k (by simp; omega) hne]
    exact Below.heap_alloc _ _ _ hk
/-- An append of nothing, as one step of a region that draws its order. -/
theorem step_noneI {ops : Array Oper} {o : Oper} {a : Act} {w : World} {K : Act → World → Prop} {Q : Exit → Act → World → Prop} {X : Prop} (hgd : o.guard = Option.none) (s x : Operand)
    (ho : o.op = .call { callee := .builtin .append, args := #[s, x], argTypes := #[32, 32] }) (B : Nat) (v : Value) (l : List It) (hs : a.eval s = v) (hown : OwnsI8 w B v l) (c : Nat) (hx : a.eval x = .slice none 0 c)
    (h : K (a.put o.dst v) w) : if Region.wanted o (yielded ops a.tmps) = true then Oper.wp Try.prog o a w K Q else X := by
  have hw : Region.wanted o (yielded ops a.tmps) = true := by simp [Region.wanted, hgd]
  rw [if_pos hw]
  obtain ⟨i0, hi, _⟩ := info_parts Try.infoIT
  have hrun : (Builtin.append_ #[32, 32] o.type #[v, .slice none 0 c]).run Try.prog w = .ok v w := by
    rcases hown.2 with ⟨rfl, hz⟩ | ⟨g, cap, cur, rfl, _, _, hnc, _⟩
    · simp [Builtin.append_, run_underlying Try.underlying32, sizeOf, typeInfo, hi, Builtin.lenOf, Builtin.firstCells]
    · simp [Builtin.append_, run_underlying Try.underlying32, sizeOf, typeInfo, hi, Builtin.lenOf, Builtin.firstCells, hnc, storeCells]
  unfold Oper.wp
  simp [execOp, ho, resolve, invoke, builtin, hs, hx, hrun, Result.andThen]
  exact h
def lenV : Value → Nat
  | .slice _ n _ => n
  | _ => 0
set_option maxRecDepth 100000 in
set_option maxHeartbeats 8000000 in
theorem specPlaA (q : Int) (v : Value) (l : List It) (key : ByteArray) (n : Int) (w : World) (h : Sls itE w v l) (hlen : l.length ≤ 1048576) (hs : ∀ x ∈ l, x.1.size ≤ maxLen) (hks : key.size ≤ maxLen) (hok : shOk q l = false) :
    Calls Try.prog 32 #[shV q v, .string key, .int .i64 n] w fun e w' => ∃ u g, e = .returned (.tuple #[shV (usdQ q l) u, g]) ∧ OwnsI8 w' w.heap.size u (plaL q l key n) ∧ OwnsX w' w.heap.size g (plaG q l key n) ∧ Below w.heap.size w w' := by
  have H0 : Hid (Sls itE w v l) := h
  obtain ⟨a, cap, rfl, hcl, hcm, _⟩ := h.itm
  have T0 := TwoB.new w (.int .i64 q) (.slice a l.length cap) 34
  have BA : Below w.heap.size w (w.alloc (.cells #[.int .i64 q, .slice a l.length cap] 34)) := (Below.refl _ w).alloc (Nat.le_refl _) _
  have hzA : (w.alloc (.cells #[.int .i64 q, .slice a l.length cap] 34)).heap.size = w.heap.size + 1 := by simp
  have T1 := TwoB.new (w.alloc (.cells #[.int .i64 q, .slice a l.length cap] 34)) (.int .i64 0) (.slice none 0 0) 34
  rw [hzA] at T1
  have BB : Below (w.heap.size + 1) (w.alloc (.cells #[.int .i64 q, .slice a l.length cap] 34)) ((w.alloc (.cells #[.int .i64 q, .slice a l.length cap] 34)).alloc (.cells #[.int .i64 0, .slice none 0 0] 34)) := (Below.refl _ _).alloc (by rw [hzA]; exact Nat.le_refl _) _
  have hzB : ((w.alloc (.cells #[.int .i64 q, .slice a l.length cap] 34)).alloc (.cells #[.int .i64 0, .slice none 0 0] 34)).heap.size = w.heap.size + 1 + 1 := by simp
  have BC : Below (w.heap.size + 1 + 1) ((w.alloc (.cells #[.int .i64 q, .slice a l.length cap] 34)).alloc (.cells #[.int .i64 0, .slice none 0 0] 34)) (((w.alloc (.cells #[.int .i64 q, .slice a l.length cap] 34)).alloc (.cells #[.int .i64 0, .slice none 0 0] 34)).alloc (.cells #[] 9)) := (Below.refl _ _).alloc (by rw [hzB]; exact Nat.le_refl _) _
  have S3 := (T0.kept BB (Nat.lt_succ_self _)).kept BC (by omega)
  have S6 := T1.kept BC (by omega)
  have XG := OwnsE.born (E := txtE) (ty := 9) ((w.alloc (.cells #[.int .i64 q, .slice a l.length cap] 34)).alloc (.cells #[.int .i64 0, .slice none 0 0] 34))
  rw [hzB] at XG
  have BW : Below w.heap.size w (((w.alloc (.cells #[.int .i64 q, .slice a l.length cap] 34)).alloc (.cells #[.int .i64 0, .slice none 0 0] 34)).alloc (.cells #[] 9)) := (BA.trans (BB.mono (Nat.le_succ _))).trans (BC.mono (by omega))
  have hzC : (((w.alloc (.cells #[.int .i64 q, .slice a l.length cap] 34)).alloc (.cells #[.int .i64 0, .slice none 0 0] 34)).alloc (.cells #[] 9)).heap.size = w.heap.size + 3 := by simp
  have hsk := fun W (hW : Below w.heap.size w W) => specSok q (.slice a l.length cap) l W (H0.out.kept hW) hs
  have hit := fun W => specItem (key, n) q W hks
  unfold shV at *
  unfold itV at hit
  clear h T0 T1 BA BB BC hzA hzB
  go_enter Try.func32, Try.ntmps32
  generalize hwB : ((w.alloc (.cells #[.int .i64 q, .slice a l.length cap] 34)).alloc (.cells #[.int .i64 0, .slice none 0 0] 34)).alloc (.cells #[] 9) = wB at S3 S6 XG BW hzC
  have x0 := S3.c0
  have x1 := S3.c1
  go_wp2_with fail
  refine (hsk _ BW).mono ?_
  rintro e w1 ⟨rfl, hb1⟩
  have hz1 := hb1.size
  rw [hzC] at hz1
  have T3 : Hid (TwoB w1 w.heap.size (.int .i64 q) (.slice a l.length cap)) := S3.kept hb1 S3.lt
  have T6 : Hid (TwoB w1 (w.heap.size + 1) (.int .i64 0) (.slice none 0 0)) := S6.kept hb1 S6.lt
  have XO : Hid (OwnsX w1 (w.heap.size + 2) (.slice (some ⟨w.heap.size + 1 + 1, 0, none⟩) 0 0) []) := (show Hid _ from OwnsE.kept XG hb1)
  have B1 : Hid (Below w.heap.size w w1) := (show Hid _ from BW.trans (hb1.mono BW.size))
  clear hb1 S3 S6 XG BW hzC hwB x0 x1 hsk
  rw [hok]
  have HQ : Hid (usdQ q l = 0 ∧ plaL q l key n = [] ∧ plaG q l key n = []) := by
    show _ ∧ _
    unfold usdQ plaL plaG
    rw [hok]
    exact ⟨rfl, rfl, rfl⟩
  obtain ⟨y0, y1, f0, f1, yl⟩ := T6.out
  go_wp2
  refine bodyPost_ret (v := .tuple #[.agg #[.int .i64 0, .slice none 0 0], .slice (some ⟨w.heap.size + 1 + 1, 0, none⟩) 0 0]) (by simp [results, Try.results32, go_sem, y0, y1]) rfl ⟨_, _, by rw [HQ.out.1], by rw [HQ.out.2.1]; exact OwnsE.none _ _, by rw [HQ.out.2.2]; exact (XO.out.two (b := w.heap.size + 1) (fun k hk => by have := XO.out.from k hk; omega) _ _).low (by omega), (B1.out.setCell (p := ⟨w.heap.size + 1, 0, none⟩) (Nat.le_succ _) _).setCell (p := ⟨w.heap.size + 1, 1, none⟩) (Nat.le_succ _) _⟩
end Go.Proofs.Ytnnmbgenepfacaa

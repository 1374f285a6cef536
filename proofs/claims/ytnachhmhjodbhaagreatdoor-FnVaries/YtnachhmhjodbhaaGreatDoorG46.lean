/-
  Any drawn objects for policy.
  Drawn arguments of Selecting.
  What is selected by: a comma more, and a field of another name more.
  Drawn arguments of Matches.
-/
import Derived.Test.YtnachhmhjodbhaaGreatDoorG41
import Derived.Test.YtnachhmhjodbhaaGreatDoorG45
import Derived.Test.YtnachhmhjodbhaaGreatDoorG04
import Derived.Test.YtnachhmhjodbhaaGreatDoorG11
namespace Go.Proofs.YtnachhmhjodbhaaGreatDoor
open Go.RowKit Go.Sort
set_option linter.unusedVariables false
set_option linter.unusedSimpArgs false

theorem make_text10 (w : World) (n : Nat) (hn : n ≤ 1000) : ∃ w', (Instr.makeSlice 22 (.int .i64 (n : Int)) (.int .i64 (n : Int))).run Tryz.prog w = .ok (.slice (some ⟨w.heap.size, 0, none⟩) n n) w' ∧ Below w.heap.size w w' ∧ ∃ t : ByteArray, t.size = n ∧ (convert 22 9 (.slice (some ⟨w.heap.size, 0, none⟩) n n)).run Tryz.prog w' = .ok (.string t) w' := by
  obtain ⟨i0, hi, hz0, hz1, hz2⟩ := info_parts Tryz.info5
  obtain ⟨w', h1, h2, h3⟩ := run_makeSlice_full (P := Tryz.prog) w w.heap.size 22 5 i0 (.int .u8 0) 1 Tryz.underlying22 hi hz0 hz1 .i64 .i64 n (by omega) (by rw [hz2]; omega) (by unfold maxLen; omega) (Nat.le_refl _)
  have hl : (madeCells (Value.int IntKind.u8 0).cells (n * 1)).toList = bytesV (List.replicate n 0) := by
    have e := toList_madeCells_one (.int .u8 0) (n * 1)
    rw [show (Value.int IntKind.u8 0).cells = #[.int .u8 0] from rfl, e, Nat.mul_one]
    unfold bytesV
    rw [List.map_replicate]
    rfl
  rw [hl] at h2
  have ho : OwnsB w' w.heap.size (.slice (some ⟨w.heap.size, 0, none⟩) n n) (List.replicate n 0) := by
    unfold OwnsB
    rw [List.length_replicate]
    exact h2
  refine ⟨w', h1, ⟨h3.os, h3.tape, h3.output, h3.size, fun k hk => h3.block k hk (by simp)⟩, _, ?_, ho.text⟩
  show (List.replicate n (0 : UInt8)).toArray.size = n
  simp

theorem SmallG.few {l : List Fl} (h : SmallG l) : FewG l := ⟨h.1, fun f hf => by have := h.2 f hf; omega⟩
/-- An object of the call's own in the block g, the result's block n as it was made. -/
structure LocO (y : World) (n g B : Nat) (o : Ob) (p u : Value) : Prop where
  lb : ObB y g o p u
  nb : ObB y n noO (.slice none 0 0) (.slice none 0 0)
  tb : ∃ c, y.heap[g]? = some (.cells c 32 (0, 0))
  op : OwnsF y B p o.l
  ou : OwnsF y B u o.r.l
theorem LocO.beside {b : Nat} {y z : World} {n g B : Nat} {o : Ob} {p u : Value} (h : LocO y n g B o p u) (hb : Beside b y z) (h1 : n ≠ b) (h2 : g ≠ b) (h3 : b < B) : LocO z n g B o p u := by
  obtain ⟨c, hc⟩ := h.tb
  exact ⟨h.lb.beside hb h2, h.nb.beside hb h1, ⟨c, besAt hb hc h2⟩, h.op.beside10 hb h3, h.ou.beside10 hb h3⟩
theorem ObB.put010 {w : World} {b : Nat} {o : Ob} {v u : Value} (h : ObB w b o v u) (t : ByteArray) : ObB (w.setCell ⟨b, 0, none⟩ (.string t)) b ⟨t, o.l, o.r, o.asked, o.got, o.ep⟩ v u where
  c0 := World.cell?_setCell_same _ _ _ h.c0
  c1 := by rw [World.cell?_setCell_other _ _ _ _ (by simp)]; exact h.c1
  c2 := by rw [World.cell?_setCell_other _ _ _ _ (by simp)]; exact h.c2
  c3 := by rw [World.cell?_setCell_other _ _ _ _ (by simp)]; exact h.c3
  c4 := by rw [World.cell?_setCell_other _ _ _ _ (by simp)]; exact h.c4
  c5 := by rw [World.cell?_setCell_other _ _ _ _ (by simp)]; exact h.c5
  c6 := by rw [World.cell?_setCell_other _ _ _ _ (by simp)]; exact h.c6
  c7 := by rw [World.cell?_setCell_other _ _ _ _ (by simp)]; exact h.c7
  fz := fun k => by rw [World.frozen?_setCell]; exact h.fz k
  hi := by rw [World.size_setCell]; exact h.hi
theorem ObB.put710 {w : World} {b : Nat} {o : Ob} {v u : Value} (h : ObB w b o v u) (n : Int) : ObB (w.setCell ⟨b, 7, none⟩ (.int .i64 n)) b ⟨o.k, o.l, o.r, o.asked, o.got, n⟩ v u where
  c0 := by rw [World.cell?_setCell_other _ _ _ _ (by simp)]; exact h.c0
  c1 := by rw [World.cell?_setCell_other _ _ _ _ (by simp)]; exact h.c1
  c2 := by rw [World.cell?_setCell_other _ _ _ _ (by simp)]; exact h.c2
  c3 := by rw [World.cell?_setCell_other _ _ _ _ (by simp)]; exact h.c3
  c4 := by rw [World.cell?_setCell_other _ _ _ _ (by simp)]; exact h.c4
  c5 := by rw [World.cell?_setCell_other _ _ _ _ (by simp)]; exact h.c5
  c6 := by rw [World.cell?_setCell_other _ _ _ _ (by simp)]; exact h.c6
  c7 := World.cell?_setCell_same _ _ _ h.c7
  fz := fun k => by rw [World.frozen?_setCell]; exact h.fz k
  hi := by rw [World.size_setCell]; exact h.hi
theorem LocO.put0 {y : World} {n g B : Nat} {o : Ob} {p u : Value} (h : LocO y n g B o p u) (hn : g ≠ n) (t : ByteArray) : LocO (y.setCell ⟨g, 0, none⟩ (.string t)) n g B ⟨t, o.l, o.r, o.asked, o.got, o.ep⟩ p u := by
  obtain ⟨c, hc⟩ := h.tb
  exact ⟨h.lb.put010 t, h.nb.far hn _, ⟨_, heap_setCell_same y g 0 _ _ (.string t) hc⟩, h.op.besides10 hc (by decide) _, h.ou.besides10 hc (by decide) _⟩
theorem LocO.put5 {y : World} {n g B : Nat} {o : Ob} {p u : Value} (h : LocO y n g B o p u) (hn : g ≠ n) (x : Int) : LocO (y.setCell ⟨g, 5, none⟩ (.int .i64 x)) n g B ⟨o.k, o.l, o.r, x, o.got, o.ep⟩ p u := by
  obtain ⟨c, hc⟩ := h.tb
  exact ⟨h.lb.put510 x, h.nb.far hn _, ⟨_, heap_setCell_same y g 5 _ _ (.int .i64 x) hc⟩, h.op.besides10 hc (by decide) _, h.ou.besides10 hc (by decide) _⟩
theorem LocO.put6 {y : World} {n g B : Nat} {o : Ob} {p u : Value} (h : LocO y n g B o p u) (hn : g ≠ n) (x : Int) : LocO (y.setCell ⟨g, 6, none⟩ (.int .i64 x)) n g B ⟨o.k, o.l, o.r, o.asked, x, o.ep⟩ p u := by
  obtain ⟨c, hc⟩ := h.tb
  exact ⟨h.lb.put610 x, h.nb.far hn _, ⟨_, heap_setCell_same y g 6 _ _ (.int .i64 x) hc⟩, h.op.besides10 hc (by decide) _, h.ou.besides10 hc (by decide) _⟩
theorem LocO.put7 {y : World} {n g B : Nat} {o : Ob} {p u : Value} (h : LocO y n g B o p u) (hn : g ≠ n) (x : Int) : LocO (y.setCell ⟨g, 7, none⟩ (.int .i64 x)) n g B ⟨o.k, o.l, o.r, o.asked, o.got, x⟩ p u := by
  obtain ⟨c, hc⟩ := h.tb
  exact ⟨h.lb.put710 x, h.nb.far hn _, ⟨_, heap_setCell_same y g 7 _ _ (.int .i64 x) hc⟩, h.op.besides10 hc (by decide) _, h.ou.besides10 hc (by decide) _⟩
theorem LocO.putR {y : World} {n g B : Nat} {o : Ob} {p u : Value} (h : LocO y n g B o p u) (hn : g ≠ n) (r : Rs) (x : Value) (hx : OwnsF y B x r.l) : LocO (((y.setCell ⟨g, 2, none⟩ (.int .i64 r.s)).setCell ⟨g, 3, none⟩ x).setCell ⟨g, 4, none⟩ (.string r.b)) n g B ⟨o.k, o.l, r, o.asked, o.got, o.ep⟩ p x := by
  obtain ⟨c, hc⟩ := h.tb
  have h1 := heap_setCell_same y g 2 _ _ (.int .i64 r.s) hc
  have h2 := heap_setCell_same _ g 3 _ _ x h1
  exact ⟨((h.lb.put210 r.s).put310 r.l x).put410 r.b, ((h.nb.far hn _).far hn _).far hn _, ⟨_, heap_setCell_same _ g 4 _ _ (.string r.b) h2⟩, ((h.op.besides10 hc (by decide) _).besides10 h1 (by decide) _).besides10 h2 (by decide) _, ((hx.besides10 hc (by decide) _).besides10 h1 (by decide) _).besides10 h2 (by decide) _⟩
theorem LocO.form {y : World} {n g B : Nat} {o : Ob} {p u : Value} (h : LocO y n g B o p u) : ∃ a c a2 c2, p = .slice a o.l.length c ∧ u = .slice a2 o.r.l.length c2 := by
  obtain ⟨a, c, h1, _, _⟩ := h.op.form
  obtain ⟨a2, c2, h2, _, _⟩ := h.ou.form
  exact ⟨a, c, a2, c2, h1, h2⟩
/-- .. copied to the result. -/
theorem LocO.fin {y : World} {n g B : Nat} {o : Ob} {p u : Value} (h : LocO y n g B o p u) (hB : n < B) : ObB (putL y n (obL o p u) 0) n o p u ∧ Below n y (putL y n (obL o p u) 0) ∧ OwnsF (putL y n (obL o p u) 0) n p o.l ∧ OwnsF (putL y n (obL o p u) 0) n u o.r.l :=
  ⟨h.nb.puts _ _ _, putL_below (Nat.le_refl _) _ 0 (Below.refl _ _), (h.op.putL10 hB _ 0).low (Nat.le_of_lt hB), (h.ou.putL10 hB _ 0).low (Nat.le_of_lt hB)⟩
def frY (b n g B : Nat) (got : Int) (z5 : Value) (t : Nat → Value) : Act := { tmps := #[.pointer (some ⟨b, 0, none⟩), undef, .pointer (some ⟨n, 0, none⟩), .pointer (some ⟨g, 0, none⟩), .pointer (some ⟨b, 0, none⟩), z5, .pointer (some ⟨b, 0, none⟩), .bool true, .pointer (some ⟨b, 0, none⟩), .int .i64 0, .bool true, .bool true, t 12, t 13, t 14, t 15, t 16, t 17, t 18, t 19, undef, undef, undef, undef, undef, undef, undef, undef, undef, undef, undef, undef, undef, undef, undef, undef, undef, undef, undef, undef, undef, undef, undef, undef, undef, undef, undef, undef, undef, undef, undef], defers := [] }
def dY (i : Nat) : Nat := if i = 0 then 12 else if i = 1 then 13 else if i = 2 then 14 else if i = 3 then 15 else if i = 4 then 16 else if i = 5 then 17 else if i = 6 then 18 else if i = 7 then 19 else i + 5000
def GY (b n g B : Nat) (got : Int) (z5 : Value) (i : Nat) (x : World) (v : Value) : Prop := match i with
  | 0 => v = (.pointer (some ⟨g, 6, none⟩))
  | 1 => v = (.int .i64 got)
  | 2 => v = (.int .i64 (got + 1))
  | 3 => gTabI b [-1, got + 1, -9223372036854775808] x v
  | 4 => v = .pointer (some ⟨b, 0, none⟩)
  | 5 => gNum 3 v
  | 6 => gPtI b [-1, got + 1, -9223372036854775808] x v
  | 7 => ∃ z : Int, v = .int .i64 z
  | _ => True
theorem GY.keep (b n g B : Nat) (got : Int) (z5 : Value) {x y : World} (hb : Beside b x y) (hB : b < B) (j : Nat) (v : Value) (hj : j < 8) (h : GY b n g B got z5 j x v) : GY b n g B got z5 j y v := by
  rcases (show j = 0 ∨ j = 1 ∨ j = 2 ∨ j = 3 ∨ j = 4 ∨ j = 5 ∨ j = 6 ∨ j = 7 by omega) with rfl | rfl | rfl | rfl | rfl | rfl | rfl | rfl
  · exact h
  · exact h
  · exact h
  · exact gTabI.keep h hb
  · exact h
  · exact h
  · exact gPtI.keep h hb
  · exact h
theorem dY_ne {i j : Nat} (hi : i < 8) (hj : j < 8) (h : j ≠ i) : dY j ≠ dY i := by
  rcases (show i = 0 ∨ i = 1 ∨ i = 2 ∨ i = 3 ∨ i = 4 ∨ i = 5 ∨ i = 6 ∨ i = 7 by omega) with rfl | rfl | rfl | rfl | rfl | rfl | rfl | rfl <;> rcases (show j = 0 ∨ j = 1 ∨ j = 2 ∨ j = 3 ∨ j = 4 ∨ j = 5 ∨ j = 6 ∨ j = 7 by omega) with rfl | rfl | rfl | rfl | rfl | rfl | rfl | rfl <;> first | (exact absurd rfl h) | decide
set_option maxRecDepth 100000 in
set_option maxHeartbeats 16000000 in
theorem l10DrawAnyO (b : Nat) (sa : Option Addr) (sl sc : Nat) (w : World) (hc : Cur w b sa sl sc) :
    Calls Tryz.prog 35 #[.pointer (some ⟨b, 0, none⟩)] w fun e w' => (∃ v, e = .returned v ∧ gOb w.heap.size w' v) ∧ Cur w' b sa sl sc ∧ Beside b w w' := by
  have hbz : b < w.heap.size := hc.2.2.1
  obtain ⟨B, hB⟩ : ∃ B, B = w.heap.size + 1 := ⟨_, rfl⟩
  have hBb : b < B := by omega
  have HB : Hid (B = w.heap.size + 1) := hB
  go_enter Tryz.func35, Tryz.ntmps35
  go_wp2_with fail
  refine (l10DrawO b sa sl sc (w.alloc (.cells #[.string ⟨#[]⟩, .slice none 0 0, .int .i64 0, .slice none 0 0, .string ⟨#[]⟩, .int .i64 0, .int .i64 0, .int .i64 0] 32)) (hc.more9 _)).mono ?_
  rintro e w1 ⟨⟨v, rfl, o, p, u, rfl, h1, h2, hfew⟩, hc1, hb1⟩
  obtain ⟨pa, pc, rfl, _, _⟩ := h1.form
  obtain ⟨ua, uc, rfl, _, _⟩ := h2.form
  have N1 : ObB w1 w.heap.size noO (.slice none 0 0) (.slice none 0 0) := (ObB.new w noO (.slice none 0 0) (.slice none 0 0) 32).beside hb1 (by omega)
  have hnw : w.heap.size < w1.heap.size := N1.hi
  have L2 : Hid (LocO (w1.alloc (.cells #[.string o.k, .slice pa o.l.length pc, .int .i64 o.r.s, .slice ua o.r.l.length uc, .string o.r.b, .int .i64 o.asked, .int .i64 o.got, .int .i64 o.ep] 32)) w.heap.size w1.heap.size B o (.slice pa o.l.length pc) (.slice ua o.r.l.length uc)) := ⟨ObB.new w1 o _ _ _, N1.alloc _, ⟨_, newAt w1 _⟩, (h1.low (by simp; omega)).alloc _, (h2.low (by simp; omega)).alloc _⟩
  have C2 : Hid (Cur (w1.alloc (.cells #[.string o.k, .slice pa o.l.length pc, .int .i64 o.r.s, .slice ua o.r.l.length uc, .string o.r.b, .int .i64 o.asked, .int .i64 o.got, .int .i64 o.ep] 32)) b sa sl sc) := hc1.more9 _
  have S2 : Hid (Beside b w (w1.alloc (.cells #[.string o.k, .slice pa o.l.length pc, .int .i64 o.r.s, .slice ua o.r.l.length uc, .string o.r.b, .int .i64 o.asked, .int .i64 o.got, .int .i64 o.ep] 32))) := ((((Beside.refl b w).more9 _).trans hb1).more9 _)
  have hg1 : w1.heap.size ≠ b := by omega
  have hg2 : w1.heap.size ≠ w.heap.size := by omega
  have hn1 : w.heap.size ≠ b := by omega
  have HFW : Hid (FewO o) := hfew
  clear h1 h2 hc1 hb1 hc N1 hfew hB
  unfold obV
  go_wp2_with fail
  refine (l1Once b sa sl sc 14 (by decide) (by decide) _ C2.out).mono ?_
  rintro e w3 ⟨tt, rfl, hc3, hb3⟩
  have L3 : Hid (LocO w3 w.heap.size w1.heap.size B o (.slice pa o.l.length pc) (.slice ua o.r.l.length uc)) := L2.out.beside hb3 hn1 hg1 hBb
  have C3 : Hid (Cur w3 b sa sl sc) := hc3
  have S3 : Hid (Beside b w w3) := S2.out.trans hb3
  clear hb3 hc3 L2 C2 S2
  cases tt with
  | false =>
    obtain ⟨o0, o1, o2, o3, o4, o5, o6, o7, of, oh⟩ := L3.out.lb
    obtain ⟨z0, z1, z2, z3, z4, z5', z6, z7, zf, zh⟩ := L3.out.nb
    simp only [noO, noS] at z0 z1 z2 z3 z4 z5' z6 z7
    (try simp only at o0 o1 o2 o3 o4 o5 o6 o7)
    have HF : Hid _ := L3.out.fin (show w.heap.size < B by have := HB.out; omega)
    go_wp2
    obtain ⟨hp, bp, vp, up⟩ := HF.out
    obtain ⟨p0, p1, p2, p3, p4, p5, p6, p7, pf, ph⟩ := hp
    simp only [obL, putL, Nat.zero_add, Nat.reduceAdd] at p0 p1 p2 p3 p4 p5 p6 p7 bp vp up
    refine bodyPost_ret (v := obV o (.slice pa o.l.length pc) (.slice ua o.r.l.length uc)) (by unfold obV; simp [results, Tryz.results35, go_sem, p0, p1, p2, p3, p4, p5, p6, p7]) rfl ⟨⟨_, rfl, o, _, _, rfl, vp, up, HFW.out⟩, C3.out.kept bp hbz, S3.out.grow10 bp (Nat.le_refl _)⟩

  | true =>
    go_wp2_with fail
    refine (l1Below b sa sl sc 5 (by decide) (by decide) _ C3.out).mono ?_
    rintro e w4 ⟨y, rfl, hy0, hy1, hc4, hb4⟩
    have L4 : Hid (LocO w4 w.heap.size w1.heap.size B o (.slice pa o.l.length pc) (.slice ua o.r.l.length uc)) := L3.out.beside hb4 hn1 hg1 hBb
    have C4 : Hid (Cur w4 b sa sl sc) := hc4
    have S4 : Hid (Beside b w w4) := S3.out.trans hb4
    clear hb4 hc4 L3 C3 S3
    rcases (show y = 0 ∨ y = 1 ∨ y = 2 ∨ y = 3 ∨ y = 4 by omega) with rfl | rfl | rfl | rfl | rfl
    · obtain ⟨z5, hz5⟩ : ∃ z5 : Value, z5 = .agg #[.string o.k, .slice pa o.l.length pc, .int .i64 o.r.s, .slice ua o.r.l.length uc, .string o.r.b, .int .i64 o.asked, .int .i64 o.got, .int .i64 o.ep] := ⟨_, rfl⟩
      have ew : IntKind.i64.wrap (o.got + 1) = o.got + 1 := by have := HFW.out.2.2.2.2; rw [IntKind.wrap_i64]; omega
      have hBx : ∀ x, SCur b sa sl sc w4 x → B ≤ x.heap.size := fun x h => by have := h.size; have := L4.out.lb.hi; have := HB.out; omega
      have hCG : ∀ x, SCur b sa sl sc w4 x → x.cell? ⟨w1.heap.size, 6, none⟩ = some (.int .i64 o.got) := fun x h => (L4.out.beside h.2 hn1 hg1 hBb).lb.c6
      have hS0 : SCur b sa sl sc w4 w4.drew := ⟨C4.out, ⟨rfl, rfl, rfl, Nat.le_refl _, fun _ _ _ => rfl⟩⟩
      go_upto_region 5 with fail
      rw [← hz5]
      clear hz5
      refine region_heads 8 mixed (by decide) (by kernel_rfl) (by kernel_rfl) (by kernel_rfl) (by kernel_rfl) (frY b w.heap.size w1.heap.size B o.got z5) dY (SCur b sa sl sc w4) (GY b w.heap.size w1.heap.size B o.got z5) (fun i j hi hj h => dY_ne hi hj h) ?put (fun _ => undef) rfl ?hS ?step ?done
      case put =>
        intro i o hi ho t v
        rcases (show i = 0 ∨ i = 1 ∨ i = 2 ∨ i = 3 ∨ i = 4 ∨ i = 5 ∨ i = 6 ∨ i = 7 by omega) with rfl | rfl | rfl | rfl | rfl | rfl | rfl | rfl
        all_goals
          obtain rfl := Option.some.inj ho
          rfl
      case step =>
        intro i o hi ho t x hS hdep K hK
        rcases (show i = 0 ∨ i = 1 ∨ i = 2 ∨ i = 3 ∨ i = 4 ∨ i = 5 ∨ i = 6 ∨ i = 7 by omega) with rfl | rfl | rfl | rfl | rfl | rfl | rfl | rfl
        all_goals obtain rfl := Option.some.inj ho
        · have HK : Hid (K ((frY b w.heap.size w1.heap.size B o.got z5 t).put (some 12) (.pointer (some ⟨w1.heap.size, 6, none⟩))) x) := hK _ _ hS (fun j u hj hne h => h) rfl
          have h2 := HK.out
          unfold frY at h2 ⊢
          go_simp
          simpa [Act.put, Act.put] using h2
        · have e0 : t 12 = (.pointer (some ⟨w1.heap.size, 6, none⟩)) := hdep { on := 0, ground := Ground.data } (by simp) rfl
          have c6 : x.cell? ⟨w1.heap.size, 6, none⟩ = some (.int .i64 o.got) := hCG x hS
          have HK : Hid (K ((frY b w.heap.size w1.heap.size B o.got z5 t).put (some 13) (.int .i64 o.got)) x) := hK _ _ hS (fun j u hj hne h => h) rfl
          have h2 := HK.out
          unfold frY at h2 ⊢
          go_simp
          simpa [Act.put, e0, c6] using h2
        · have e1 : t 13 = (.int .i64 o.got) := hdep { on := 1, ground := Ground.data } (by simp) rfl
          have HK : Hid (K ((frY b w.heap.size w1.heap.size B o.got z5 t).put (some 14) (.int .i64 (o.got + 1))) x) := hK _ _ hS (fun j u hj hne h => h) rfl
          have h2 := HK.out
          unfold frY at h2 ⊢
          go_simp
          simpa [Act.put, e1, ew] using h2
        · have e2 : t 14 = .int .i64 (o.got + 1) := hdep { on := 2, ground := Ground.data } (by simp) rfl
          have HK : Hid (K ((frY b w.heap.size w1.heap.size B o.got z5 t).put (some 15) (.slice (some ⟨x.heap.size, 0, none⟩) 3 3)) (x.alloc (.cells #[.int .i64 (-1), .int .i64 (o.got + 1), .int .i64 (-9223372036854775808)] 2))) := hK _ _ (hS.more _) (fun j u hj hne h => GY.keep b w.heap.size w1.heap.size B o.got z5 (besAlloc b x _) hBb j u hj h) ⟨x.heap.size, rfl, newAt x _, (by have := hS.lt; omega)⟩
          have h2 := HK.out
          unfold frY at h2 ⊢
          go_simp
          simpa [Act.put, e2] using h2
        · have HK : Hid (K ((frY b w.heap.size w1.heap.size B o.got z5 t).put (some 16) (.pointer (some ⟨b, 0, none⟩))) x) := hK _ _ hS (fun j u hj hne h => h) rfl
          unfold frY
          go_simp
          exact HK.out
        · have e : t 16 = .pointer (some ⟨b, 0, none⟩) := hdep { on := 4, ground := Ground.data } (by simp) rfl
          exact step_below rfl 3 (by decide) (by decide) (.tmp 16) _ rfl e hS (fun v y k1 k2 k3 => hK v y k1 (fun j u hj hne h => GY.keep b w.heap.size w1.heap.size B o.got z5 k2 hBb j u hj h) k3)
        · have ga : gTabI b [-1, o.got + 1, -9223372036854775808] x (t 15) := hdep { on := 3, ground := Ground.data } (by simp) rfl
          obtain ⟨gg, ea, hT, hgb⟩ := ga
          have gc : gNum 3 (t 17) := hdep { on := 5, ground := Ground.data } (by simp) rfl
          obtain ⟨k, ec, hk⟩ := gc
          have hkI : (k : Int) < 3 := by omega
          have HK : Hid (K ((frY b w.heap.size w1.heap.size B o.got z5 t).put (some 18) (.pointer (some ⟨gg, k, none⟩))) x) := hK _ _ hS (fun j u hj hne h => h) ⟨gg, k, rfl, hk, hT, hgb⟩
          have h2 := HK.out
          unfold frY at h2 ⊢
          go_simp
          simpa [Act.put, ea, ec, hkI] using h2
        · have ga : gPtI b [-1, o.got + 1, -9223372036854775808] x (t 18) := hdep { on := 6, ground := Ground.data } (by simp) rfl
          obtain ⟨gg, k, ea, hk, hT, hgb⟩ := ga
          obtain ⟨z, c0⟩ : ∃ z : Int, x.cell? ⟨gg, k, none⟩ = some (.int .i64 z) := ⟨_, tabI_at hT hk⟩
          have HK : Hid (K ((frY b w.heap.size w1.heap.size B o.got z5 t).put (some 19) (.int .i64 z)) x) := hK _ _ hS (fun j u hj hne h => h) ⟨z, rfl⟩
          have h2 := HK.out
          unfold frY at h2 ⊢
          go_simp
          simpa [Act.put, ea, c0] using h2
      case hS => exact hS0
      case done =>
        intro t x hS hG
        obtain ⟨z, e19⟩ : ∃ z : Int, t 19 = .int .i64 z := hG 7 (by decide)
        have L5 := L4.out.beside hS.2 hn1 hg1 hBb
        have L6 : Hid (LocO (x.setCell ⟨w1.heap.size, 5, none⟩ (.int .i64 z)) w.heap.size w1.heap.size B ⟨o.k, o.l, o.r, z, o.got, o.ep⟩ (.slice pa o.l.length pc) (.slice ua o.r.l.length uc)) := L5.put5 hg2 z
        have hbs : Below B x (x.setCell ⟨w1.heap.size, 5, none⟩ (.int .i64 z)) := (Below.refl B x).setCell (p := ⟨w1.heap.size, 5, none⟩) (by show B ≤ w1.heap.size; have := HB.out; omega) _
        have C6 : Hid (Cur (x.setCell ⟨w1.heap.size, 5, none⟩ (.int .i64 z)) b sa sl sc) := hS.1.kept hbs hBb
        have S6 : Hid (Beside b w (x.setCell ⟨w1.heap.size, 5, none⟩ (.int .i64 z))) := (S4.out.trans hS.2).grow10 hbs (by have := HB.out; omega)
        obtain ⟨o0, o1, o2, o3, o4, o5, o6, o7, of, oh⟩ := L5.lb
        clear hG hS hS0 hCG hBx L4 C4 S4 L5 hbs
        show wpList Tryz.prog _ _ [_, _] _ x
        unfold frY
        rw [e19]
        clear e19
        go_upto_region 14 with fail
        generalize x.setCell ⟨w1.heap.size, 5, none⟩ (.int .i64 z) = w9 at L6 C6 S6 ⊢
        clear o0 o1 o2 o3 o4 o5 o6 o7 of oh
        obtain ⟨o0, o1, o2, o3, o4, o5, o6, o7, of, oh⟩ := L6.out.lb
        obtain ⟨z0, z1, z2, z3, z4, z5', z6, z7, zf, zh⟩ := L6.out.nb
        simp only [noO, noS] at z0 z1 z2 z3 z4 z5' z6 z7
        (try simp only at o0 o1 o2 o3 o4 o5 o6 o7)
        have HF : Hid _ := L6.out.fin (show w.heap.size < B by have := HB.out; omega)
        go_wp2
        obtain ⟨hp, bp, vp, up⟩ := HF.out
        obtain ⟨p0, p1, p2, p3, p4, p5, p6, p7, pf, ph⟩ := hp
        simp only [obL, putL, Nat.zero_add, Nat.reduceAdd] at p0 p1 p2 p3 p4 p5 p6 p7 bp vp up
        refine bodyPost_ret (v := obV ⟨o.k, o.l, o.r, z, o.got, o.ep⟩ (.slice pa o.l.length pc) (.slice ua o.r.l.length uc)) (by unfold obV; simp [results, Tryz.results35, go_sem, p0, p1, p2, p3, p4, p5, p6, p7]) rfl ⟨⟨_, rfl, ⟨o.k, o.l, o.r, z, o.got, o.ep⟩, _, _, rfl, vp, up, HFW.out⟩, C6.out.kept bp hbz, S6.out.grow10 bp (Nat.le_refl _)⟩
    · go_wp2_with fail
      refine (l1Below b sa sl sc 3 (by decide) (by decide) (w4.alloc (.cells #[.int .i64 253402300799, .int .i64 253402300800, .int .i64 0] 2)) (C4.out.more9 _)).mono ?_
      rintro e w5 ⟨k, rfl, hk0, hk1, hc5, hb5⟩
      obtain ⟨k, rfl⟩ := Int.eq_ofNat_of_zero_le hk0
      have hT : w5.heap[w4.heap.size]? = some (.cells (List.map (Value.int .i64) [253402300799, 253402300800, 0]).toArray 2 (0, 0)) := besAt hb5 (newAt w4 _) (by have := C4.out.2.2.1; omega)
      have hk : k < ([253402300799, 253402300800, 0] : List Int).length := by show k < 3; omega
      obtain ⟨z, hz0, hz1, c0⟩ : ∃ z : Int, 0 ≤ z ∧ z ≤ 253402300800 ∧ w5.cell? ⟨w4.heap.size, k, none⟩ = some (.int .i64 z) := ⟨_, ((by decide : ∀ s ∈ ([253402300799, 253402300800, 0] : List Int), (0) ≤ s ∧ s ≤ 253402300800) _ (List.getElem_mem hk)).1, ((by decide : ∀ s ∈ ([253402300799, 253402300800, 0] : List Int), (0) ≤ s ∧ s ≤ 253402300800) _ (List.getElem_mem hk)).2, tabI_at hT hk⟩
      have hkI : (k : Int) < 3 := by omega
      have L5 := (L4.out.beside ((Beside.refl b w4).more9 _) hn1 hg1 hBb).beside hb5 hn1 hg1 hBb
      have L6 : Hid (LocO (w5.setCell ⟨w1.heap.size, 6, none⟩ (.int .i64 z)) w.heap.size w1.heap.size B ⟨o.k, o.l, o.r, o.asked, z, o.ep⟩ (.slice pa o.l.length pc) (.slice ua o.r.l.length uc)) := L5.put6 hg2 z
      have hbs : Below B w5 (w5.setCell ⟨w1.heap.size, 6, none⟩ (.int .i64 z)) := (Below.refl B w5).setCell (p := ⟨w1.heap.size, 6, none⟩) (by show B ≤ w1.heap.size; have := HB.out; omega) _
      have C6 : Hid (Cur (w5.setCell ⟨w1.heap.size, 6, none⟩ (.int .i64 z)) b sa sl sc) := hc5.kept hbs hBb
      have S6 : Hid (Beside b w (w5.setCell ⟨w1.heap.size, 6, none⟩ (.int .i64 z))) := ((S4.out.more9 _).trans hb5).grow10 hbs (by have := HB.out; omega)
      obtain ⟨o0, o1, o2, o3, o4, o5, o6, o7, of, oh⟩ := L5.lb
      clear L4 C4 S4 L5 hbs hc5 hb5 hT hk
      go_upto_region 14 with fail
      generalize w5.setCell ⟨w1.heap.size, 6, none⟩ (.int .i64 z) = w9 at L6 C6 S6 ⊢
      clear o0 o1 o2 o3 o4 o5 o6 o7 of oh
      obtain ⟨o0, o1, o2, o3, o4, o5, o6, o7, of, oh⟩ := L6.out.lb
      obtain ⟨z0, z1, z2, z3, z4, z5', z6, z7, zf, zh⟩ := L6.out.nb
      simp only [noO, noS] at z0 z1 z2 z3 z4 z5' z6 z7
      (try simp only at o0 o1 o2 o3 o4 o5 o6 o7)
      have HF : Hid _ := L6.out.fin (show w.heap.size < B by have := HB.out; omega)
      go_wp2
      obtain ⟨hp, bp, vp, up⟩ := HF.out
      obtain ⟨p0, p1, p2, p3, p4, p5, p6, p7, pf, ph⟩ := hp
      simp only [obL, putL, Nat.zero_add, Nat.reduceAdd] at p0 p1 p2 p3 p4 p5 p6 p7 bp vp up
      refine bodyPost_ret (v := obV ⟨o.k, o.l, o.r, o.asked, z, o.ep⟩ (.slice pa o.l.length pc) (.slice ua o.r.l.length uc)) (by unfold obV; simp [results, Tryz.results35, go_sem, p0, p1, p2, p3, p4, p5, p6, p7]) rfl ⟨⟨_, rfl, ⟨o.k, o.l, o.r, o.asked, z, o.ep⟩, _, _, rfl, vp, up, ⟨HFW.out.1, HFW.out.2.1, HFW.out.2.2.1, HFW.out.2.2.2.1, hz0, hz1⟩⟩, C6.out.kept bp hbz, S6.out.grow10 bp (Nat.le_refl _)⟩
    · go_wp2_with fail
      refine (l1Below b sa sl sc 3 (by decide) (by decide) (w4.alloc (.cells #[.int .i64 (-1), .int .i64 100000, .int .i64 100001] 2)) (C4.out.more9 _)).mono ?_
      rintro e w5 ⟨k, rfl, hk0, hk1, hc5, hb5⟩
      obtain ⟨k, rfl⟩ := Int.eq_ofNat_of_zero_le hk0
      have hT : w5.heap[w4.heap.size]? = some (.cells (List.map (Value.int .i64) [(-1), 100000, 100001]).toArray 2 (0, 0)) := besAt hb5 (newAt w4 _) (by have := C4.out.2.2.1; omega)
      have hk : k < ([(-1), 100000, 100001] : List Int).length := by show k < 3; omega
      obtain ⟨z, hz0, hz1, c0⟩ : ∃ z : Int, -1 ≤ z ∧ z ≤ 100001 ∧ w5.cell? ⟨w4.heap.size, k, none⟩ = some (.int .i64 z) := ⟨_, ((by decide : ∀ s ∈ ([(-1), 100000, 100001] : List Int), (-1) ≤ s ∧ s ≤ 100001) _ (List.getElem_mem hk)).1, ((by decide : ∀ s ∈ ([(-1), 100000, 100001] : List Int), (-1) ≤ s ∧ s ≤ 100001) _ (List.getElem_mem hk)).2, tabI_at hT hk⟩
      have hkI : (k : Int) < 3 := by omega
      have L5 := (L4.out.beside ((Beside.refl b w4).more9 _) hn1 hg1 hBb).beside hb5 hn1 hg1 hBb
      have L6 : Hid (LocO (w5.setCell ⟨w1.heap.size, 7, none⟩ (.int .i64 z)) w.heap.size w1.heap.size B ⟨o.k, o.l, o.r, o.asked, o.got, z⟩ (.slice pa o.l.length pc) (.slice ua o.r.l.length uc)) := L5.put7 hg2 z
      have hbs : Below B w5 (w5.setCell ⟨w1.heap.size, 7, none⟩ (.int .i64 z)) := (Below.refl B w5).setCell (p := ⟨w1.heap.size, 7, none⟩) (by show B ≤ w1.heap.size; have := HB.out; omega) _
      have C6 : Hid (Cur (w5.setCell ⟨w1.heap.size, 7, none⟩ (.int .i64 z)) b sa sl sc) := hc5.kept hbs hBb
      have S6 : Hid (Beside b w (w5.setCell ⟨w1.heap.size, 7, none⟩ (.int .i64 z))) := ((S4.out.more9 _).trans hb5).grow10 hbs (by have := HB.out; omega)
      obtain ⟨o0, o1, o2, o3, o4, o5, o6, o7, of, oh⟩ := L5.lb
      clear L4 C4 S4 L5 hbs hc5 hb5 hT hk
      go_upto_region 14 with fail
      generalize w5.setCell ⟨w1.heap.size, 7, none⟩ (.int .i64 z) = w9 at L6 C6 S6 ⊢
      clear o0 o1 o2 o3 o4 o5 o6 o7 of oh
      obtain ⟨o0, o1, o2, o3, o4, o5, o6, o7, of, oh⟩ := L6.out.lb
      obtain ⟨z0, z1, z2, z3, z4, z5', z6, z7, zf, zh⟩ := L6.out.nb
      simp only [noO, noS] at z0 z1 z2 z3 z4 z5' z6 z7
      (try simp only at o0 o1 o2 o3 o4 o5 o6 o7)
      have HF : Hid _ := L6.out.fin (show w.heap.size < B by have := HB.out; omega)
      go_wp2
      obtain ⟨hp, bp, vp, up⟩ := HF.out
      obtain ⟨p0, p1, p2, p3, p4, p5, p6, p7, pf, ph⟩ := hp
      simp only [obL, putL, Nat.zero_add, Nat.reduceAdd] at p0 p1 p2 p3 p4 p5 p6 p7 bp vp up
      refine bodyPost_ret (v := obV ⟨o.k, o.l, o.r, o.asked, o.got, z⟩ (.slice pa o.l.length pc) (.slice ua o.r.l.length uc)) (by unfold obV; simp [results, Tryz.results35, go_sem, p0, p1, p2, p3, p4, p5, p6, p7]) rfl ⟨⟨_, rfl, ⟨o.k, o.l, o.r, o.asked, o.got, z⟩, _, _, rfl, vp, up, HFW.out⟩, C6.out.kept bp hbz, S6.out.grow10 bp (Nat.le_refl _)⟩
    · go_wp2_with fail
      refine (l6DrawS b sa sl sc w4 C4.out).mono ?_
      rintro e w5 ⟨⟨r, x, rfl, hx, hsm⟩, hc5, hb5⟩
      obtain ⟨xa, xc, rfl, _, _⟩ := hx.form
      have L5 := L4.out.beside hb5 hn1 hg1 hBb
      have hxB : OwnsF w5 B (.slice xa r.l.length xc) r.l := hx.low (by have := L4.out.lb.hi; have := HB.out; omega)
      have L6 : Hid (LocO (((w5.setCell ⟨w1.heap.size, 2, none⟩ (.int .i64 r.s)).setCell ⟨w1.heap.size, 3, none⟩ (.slice xa r.l.length xc)).setCell ⟨w1.heap.size, 4, none⟩ (.string r.b)) w.heap.size w1.heap.size B ⟨o.k, o.l, r, o.asked, o.got, o.ep⟩ (.slice pa o.l.length pc) (.slice xa r.l.length xc)) := L5.putR hg2 r _ hxB
      have hbs : Below B w5 (((w5.setCell ⟨w1.heap.size, 2, none⟩ (.int .i64 r.s)).setCell ⟨w1.heap.size, 3, none⟩ (.slice xa r.l.length xc)).setCell ⟨w1.heap.size, 4, none⟩ (.string r.b)) := (((Below.refl B w5).setCell (p := ⟨w1.heap.size, 2, none⟩) (by show B ≤ w1.heap.size; have := HB.out; omega) _).setCell (p := ⟨w1.heap.size, 3, none⟩) (by show B ≤ w1.heap.size; have := HB.out; omega) _).setCell (p := ⟨w1.heap.size, 4, none⟩) (by show B ≤ w1.heap.size; have := HB.out; omega) _
      have C6 : Hid (Cur (((w5.setCell ⟨w1.heap.size, 2, none⟩ (.int .i64 r.s)).setCell ⟨w1.heap.size, 3, none⟩ (.slice xa r.l.length xc)).setCell ⟨w1.heap.size, 4, none⟩ (.string r.b)) b sa sl sc) := hc5.kept hbs hBb
      have S6 : Hid (Beside b w (((w5.setCell ⟨w1.heap.size, 2, none⟩ (.int .i64 r.s)).setCell ⟨w1.heap.size, 3, none⟩ (.slice xa r.l.length xc)).setCell ⟨w1.heap.size, 4, none⟩ (.string r.b))) := (S4.out.trans hb5).grow10 hbs (by have := HB.out; omega)
      obtain ⟨o0, o1, o2, o3, o4, o5, o6, o7, of, oh⟩ := L5.lb
      have hb41 := hsm.2
      clear L4 C4 S4 L5 hbs hc5 hb5 hx hxB
      unfold rsV
      go_upto_region 14 with fail
      generalize ((w5.setCell ⟨w1.heap.size, 2, none⟩ (.int .i64 r.s)).setCell ⟨w1.heap.size, 3, none⟩ (.slice xa r.l.length xc)).setCell ⟨w1.heap.size, 4, none⟩ (.string r.b) = w9 at L6 C6 S6 ⊢
      clear o0 o1 o2 o3 o4 o5 o6 o7 of oh
      obtain ⟨o0, o1, o2, o3, o4, o5, o6, o7, of, oh⟩ := L6.out.lb
      obtain ⟨z0, z1, z2, z3, z4, z5', z6, z7, zf, zh⟩ := L6.out.nb
      simp only [noO, noS] at z0 z1 z2 z3 z4 z5' z6 z7
      (try simp only at o0 o1 o2 o3 o4 o5 o6 o7)
      have HF : Hid _ := L6.out.fin (show w.heap.size < B by have := HB.out; omega)
      go_wp2
      obtain ⟨hp, bp, vp, up⟩ := HF.out
      obtain ⟨p0, p1, p2, p3, p4, p5, p6, p7, pf, ph⟩ := hp
      simp only [obL, putL, Nat.zero_add, Nat.reduceAdd] at p0 p1 p2 p3 p4 p5 p6 p7 bp vp up
      refine bodyPost_ret (v := obV ⟨o.k, o.l, r, o.asked, o.got, o.ep⟩ (.slice pa o.l.length pc) (.slice xa r.l.length xc)) (by unfold obV; simp [results, Tryz.results35, go_sem, p0, p1, p2, p3, p4, p5, p6, p7]) rfl ⟨⟨_, rfl, ⟨o.k, o.l, r, o.asked, o.got, o.ep⟩, _, _, rfl, vp, up, ⟨HFW.out.1, HFW.out.2.1, hsm.1.few, hb41, HFW.out.2.2.2.2⟩⟩, C6.out.kept bp hbz, S6.out.grow10 bp (Nat.le_refl _)⟩
    · go_wp2_with fail
      refine (l1Below b sa sl sc 2 (by decide) (by decide) _ C4.out).mono ?_
      rintro e w5 ⟨k, rfl, hk0, hk1, hc5, hb5⟩
      obtain ⟨k, rfl⟩ := Int.eq_ofNat_of_zero_le hk0
      obtain ⟨w6, hm, hb6, tx, htz, htx⟩ := make_text10 w5 (500 + k) (by omega)
      have e1 : ((500 + k : Nat) : Int) = 500 + (k : Int) := by omega
      rw [e1] at hm
      have htz2 : tx.size ≤ 600 := by omega
      have L5 := (L4.out.beside hb5 hn1 hg1 hBb).beside ((Beside.refl b w5).below hb6) hn1 hg1 hBb
      have L6 : Hid (LocO (w6.setCell ⟨w1.heap.size, 0, none⟩ (.string tx)) w.heap.size w1.heap.size B ⟨tx, o.l, o.r, o.asked, o.got, o.ep⟩ (.slice pa o.l.length pc) (.slice ua o.r.l.length uc)) := L5.put0 hg2 tx
      have hbs : Below B w6 (w6.setCell ⟨w1.heap.size, 0, none⟩ (.string tx)) := (Below.refl B w6).setCell (p := ⟨w1.heap.size, 0, none⟩) (by show B ≤ w1.heap.size; have := HB.out; omega) _
      have C6 : Hid (Cur (w6.setCell ⟨w1.heap.size, 0, none⟩ (.string tx)) b sa sl sc) := (hc5.kept hb6 hc5.2.2.1).kept hbs hBb
      have S6 : Hid (Beside b w (w6.setCell ⟨w1.heap.size, 0, none⟩ (.string tx))) := ((S4.out.trans hb5).below hb6).grow10 hbs (by have := HB.out; omega)
      obtain ⟨o0, o1, o2, o3, o4, o5, o6, o7, of, oh⟩ := L5.lb
      clear L4 C4 S4 L5 hbs hc5 hb5 hb6 e1 htz
      go_upto_region 14 with fail
      generalize w6.setCell ⟨w1.heap.size, 0, none⟩ (.string tx) = w9 at L6 C6 S6 ⊢
      clear o0 o1 o2 o3 o4 o5 o6 o7 of oh
      obtain ⟨o0, o1, o2, o3, o4, o5, o6, o7, of, oh⟩ := L6.out.lb
      obtain ⟨z0, z1, z2, z3, z4, z5', z6, z7, zf, zh⟩ := L6.out.nb
      simp only [noO, noS] at z0 z1 z2 z3 z4 z5' z6 z7
      (try simp only at o0 o1 o2 o3 o4 o5 o6 o7)
      have HF : Hid _ := L6.out.fin (show w.heap.size < B by have := HB.out; omega)
      go_wp2
      obtain ⟨hp, bp, vp, up⟩ := HF.out
      obtain ⟨p0, p1, p2, p3, p4, p5, p6, p7, pf, ph⟩ := hp
      simp only [obL, putL, Nat.zero_add, Nat.reduceAdd] at p0 p1 p2 p3 p4 p5 p6 p7 bp vp up
      refine bodyPost_ret (v := obV ⟨tx, o.l, o.r, o.asked, o.got, o.ep⟩ (.slice pa o.l.length pc) (.slice ua o.r.l.length uc)) (by unfold obV; simp [results, Tryz.results35, go_sem, p0, p1, p2, p3, p4, p5, p6, p7]) rfl ⟨⟨_, rfl, ⟨tx, o.l, o.r, o.asked, o.got, o.ep⟩, _, _, rfl, vp, up, ⟨htz2, HFW.out.2⟩⟩, C6.out.kept bp hbz, S6.out.grow10 bp (Nat.le_refl _)⟩
end Go.Proofs.YtnachhmhjodbhaaGreatDoor
namespace Go.Proofs.YtnachhmhjodbhaaGreatDoor
open Go.RowKit Go.Sort
set_option linter.unusedVariables false
set_option linter.unusedSimpArgs false

/-- The texts that are drawn for vary. -/
def selTab : List ByteArray := [⟨#[97]⟩, ⟨#[97, 99, 99, 101, 112, 116, 44, 32, 65, 44, 32, 120, 45, 98]⟩, ⟨#[120, 45, 98, 44, 97]⟩, ⟨#[42]⟩, ⟨#[97, 44, 32, 42]⟩, ⟨#[97, 32, 98]⟩, ⟨#[]⟩, ⟨#[97, 99, 99, 101, 112, 116]⟩]
theorem SmallF.getZ {l : List Fl} (h : SmallF l) : getZ l ≤ 300 := by
  have h1 := getZ_most 7 l fun f hf => (h.2 f hf).2
  have := h.1
  omega
theorem FewF.getZ {l : List Fl} (h : FewF 2 l) : getZ l ≤ 300 := by
  have h1 := getZ_most 84 l fun f hf => (h.2 f hf).2
  have := h.1
  omega
theorem SmallF.fewV {l : List Fl} (h : SmallF l) : FewG l := ⟨by have := h.1; omega, fun f hf => by have := h.2 f hf; omega⟩
set_option maxRecDepth 100000 in
set_option maxHeartbeats 8000000 in
theorem drawSel (sa : Option Addr) (sl sc : Nat) (w : World) (hc : Code8 w w.heap.size sa sl) (hl : sl ≤ 4096) :
    Calls Tryz.prog 7 #[.slice sa sl sc] w fun e w' => ∃ (s : ByteArray) (u : Value) (l : List Fl), e = .returned (.tuple #[.string s, u]) ∧ s ∈ selTab ∧ OwnsF w' w.heap.size u l ∧ FewG l ∧ Hid (getZ l ≤ 300) ∧ Below w.heap.size w w' := by
  go_enter Tryz.func7, Tryz.ntmps7
  go_wp2_with fail
  refine (l1New sa sl sc w hc hl).mono ?_
  rintro e w1 ⟨rfl, hc1, hb1⟩
  have hz1 : w.heap.size < w1.heap.size := hc1.2.2.1
  go_wp2_with fail
  refine (l1Below w.heap.size sa sl sc 8 (by decide) (by decide) (w1.alloc (.cells #[.string ⟨#[97]⟩, .string ⟨#[97, 99, 99, 101, 112, 116, 44, 32, 65, 44, 32, 120, 45, 98]⟩, .string ⟨#[120, 45, 98, 44, 97]⟩, .string ⟨#[42]⟩, .string ⟨#[97, 44, 32, 42]⟩, .string ⟨#[97, 32, 98]⟩, .string ⟨#[]⟩, .string ⟨#[97, 99, 99, 101, 112, 116]⟩] 9)) (hc1.more9 _)).mono ?_
  rintro e w3 ⟨k, rfl, hk0, hk1, hc3, hb3⟩
  obtain ⟨k, rfl⟩ := Int.eq_ofNat_of_zero_le hk0
  have hT : w3.heap[w1.heap.size]? = some (.cells (List.map Value.string selTab).toArray 9 (0, 0)) := besAt hb3 (newAt w1 _) (by omega)
  have hk : k < selTab.length := by show k < 8; omega
  obtain ⟨s, hs, c0⟩ : ∃ z : ByteArray, z ∈ selTab ∧ w3.cell? ⟨w1.heap.size, k, none⟩ = some (.string z) := ⟨_, List.getElem_mem hk, tabS_at hT hk⟩
  have hkI : (k : Int) < 8 := by omega
  have HS : Hid (s ∈ selTab) := hs
  have B3 : Hid (Below w.heap.size w w3) := (hb1.alloc hb1.size _).trans (hb3.low (Nat.le_refl _) (by have := hb1.size; simp; omega))
  have C3 : Hid (Cur w3 w.heap.size sa sl sc) := hc3
  clear hb3 hc3 hT hk hs hb1 hc1 hz1 hc
  go_wp2_with fail
  refine (l10DrawAsks w.heap.size sa sl sc _ C3.out).mono ?_
  rintro e w4 ⟨⟨q, al, rfl, hq, hqf⟩, hc4, hb4⟩
  obtain ⟨qa, qc, rfl, _, _⟩ := hq.form
  have B4 : Hid (Below w.heap.size w w4) := B3.out.trans (hb4.low (Nat.le_refl _) B3.out.size)
  have Q4 : Hid (OwnsF w4 (w.heap.size + 1) (.slice qa al.length qc) al) := hq.low (by have := C3.out.2.2.1; omega)
  have C4 : Hid (Cur w4 w.heap.size sa sl sc) := hc4
  have QF : Hid (FewG al) := hqf.more
  have QZ : Hid (getZ al ≤ 300) := hqf.getZ
  clear hb4 hc4 hq hqf C3 B3 c0
  go_wp2_with fail
  refine (l1Once w.heap.size sa sl sc 3 (by decide) (by decide) _ C4.out).mono ?_
  rintro e w5 ⟨tt, rfl, hc5, hb5⟩
  have B5 : Hid (Below w.heap.size w w5) := B4.out.trans (hb5.low (Nat.le_refl _) B4.out.size)
  have Q5 : Hid (OwnsF w5 (w.heap.size + 1) (.slice qa al.length qc) al) := Q4.out.beside10 hb5 (Nat.lt_succ_self _)
  have C5 : Hid (Cur w5 w.heap.size sa sl sc) := hc5
  clear hb5 hc5 C4 B4 Q4
  cases tt with
  | false =>
    go_wp2
    go_ret2
    exact ⟨s, _, al, rfl, HS.out, Q5.out.low (Nat.le_succ _), QF.out, QZ, B5.out⟩
  | true =>
    go_wp2_with fail
    refine (l4Draw w.heap.size sa sl sc _ C5.out).mono ?_
    rintro e w6 ⟨⟨u, l, rfl, ho6, hsm⟩, hc6, hb6⟩
    have B6 : Hid (Below w.heap.size w w6) := B5.out.trans (hb6.low (Nat.le_refl _) B5.out.size)
    have O6 : Hid (OwnsF w6 w.heap.size u l) := ho6.low B5.out.size
    have SF : Hid (FewG l) := hsm.fewV
    have SZ : Hid (getZ l ≤ 300) := hsm.getZ
    clear ho6 hsm hc6 hb6 C5 B5 Q5
    go_wp2
    go_ret2
    exact ⟨s, u, l, rfl, HS.out, O6.out, SF.out, SZ, B6.out⟩
end Go.Proofs.YtnachhmhjodbhaaGreatDoor
namespace Go.Proofs.YtnachhmhjodbhaaGreatDoor
open Go.RowKit
set_option linter.unusedVariables false

theorem sel_comma : ∀ v ∈ selTab, itemsA (v ++ ⟨#[44]⟩) = itemsA v := by decide +kernel
theorem selA_comma {v : ByteArray} (h : v ∈ selTab) (asks : List Fl) : selA (v ++ ⟨#[44]⟩) asks = selA v asks := by
  unfold selA selV
  rw [sel_comma v h]
theorem selA_not {v : ByteArray} {asks : List Fl} (h : (selA v asks).2 = false) : (selA v asks).1 = ⟨#[]⟩ := by
  unfold selA selV at h ⊢
  by_cases h1 : fldsOk asks = true
  · rw [if_pos h1] at h ⊢
    by_cases h2 : okN (itemsA v) = true
    · rw [if_pos h2] at h; cases h
    · rw [if_neg h2]
  · rw [if_neg h1]
def zzF : Fl := (⟨#[122, 122, 45, 111, 116, 104, 101, 114]⟩, ⟨#[49]⟩)
theorem sel_other : ∀ v ∈ selTab, ∀ t ∈ itemsA v, lowS zzF.1 ≠ lowS (lowS t) := by decide +kernel
theorem getF_more {asks : List Fl} {x : ByteArray} (h : lowS zzF.1 ≠ lowS x) : getF (asks ++ [zzF]) x = getF asks x := by
  unfold getF
  rw [List.foldl_append]
  show gStep x _ zzF = _
  unfold gStep
  rw [if_neg h]
theorem selS_more {asks : List Fl} : ∀ (ns : List ByteArray), (∀ x ∈ ns, lowS zzF.1 ≠ lowS x) → ∀ s, ns.foldl (selOne (asks ++ [zzF])) s = ns.foldl (selOne asks) s
  | [], _, s => rfl
  | x :: ns, h, s => by
    rw [List.foldl_cons, List.foldl_cons, selS_more ns (fun y hy => h y (List.mem_cons_of_mem _ hy))]
    congr 1
    unfold selOne
    rw [getF_more (h x (List.mem_cons_self ..))]
/-- A field of another name more: where both are told, they are the same. -/
theorem selA_more {v : ByteArray} {asks : List Fl} (hv : v ∈ selTab) (h1 : (selA v asks).2 = true) (h2 : (selA v (asks ++ [zzF])).2 = true) : (selA v (asks ++ [zzF])).1 = (selA v asks).1 := by
  unfold selA at h1 h2 ⊢
  by_cases f1 : fldsOk asks = true
  · by_cases f2 : fldsOk (asks ++ [zzF]) = true
    · rw [if_pos f1, if_pos f2]
      unfold selV
      by_cases h : okN (itemsA v) = true
      · rw [if_pos h, if_pos h]
        refine selS_more _ (fun x hx => ?_) _
        obtain ⟨t, ht, rfl⟩ := mem_nmsL (mem_srtN hx)
        exact sel_other v hv t ht
      · rw [if_neg h, if_neg h]
    · rw [if_neg f2] at h2; cases h2
  · rw [if_neg f1] at h1; cases h1
end Go.Proofs.YtnachhmhjodbhaaGreatDoor
namespace Go.Proofs.YtnachhmhjodbhaaGreatDoor
open Go.RowKit Go.Sort
set_option linter.unusedVariables false
set_option linter.unusedSimpArgs false

theorem code_onV {w w' : World} {sa : Option Addr} {sl : Nat} (h : Code8 w w.heap.size sa sl) (hb : Below w.heap.size w w') : Code8 w' w'.heap.size sa sl := fun j hj => by
  obtain ⟨g, q, z, h1, h2, h3⟩ := (h.kept hb (Nat.le_refl _)) j hj
  exact ⟨g, q, z, h1, Nat.lt_of_lt_of_le h2 hb.size, h3⟩
set_option maxRecDepth 100000 in
set_option maxHeartbeats 16000000 in
theorem drawMat (sa : Option Addr) (sl sc : Nat) (w : World) (hc : Code8 w w.heap.size sa sl) (hl : sl ≤ 4096) :
    Calls Tryz.prog 9 #[.slice sa sl sc] w fun e w' => ∃ (o : Ob) (p u : Value) (k : ByteArray) (q : Value) (al : List Fl), e = .returned (.tuple #[obV o p u, .string k, q]) ∧ OwnsF w' w.heap.size p o.l ∧ OwnsF w' w.heap.size u o.r.l ∧ FewO o ∧ k.size ≤ 600 ∧ OwnsF w' w.heap.size q al ∧ FewF 2 al ∧ Below w.heap.size w w' := by
  obtain ⟨B, hB⟩ : ∃ B, B = w.heap.size + 1 + 1 := ⟨_, rfl⟩
  have HB : Hid (B = w.heap.size + 1 + 1) := hB
  have hBb : w.heap.size + 1 < B := by omega
  have ha := (Below.refl w.heap.size w).alloc (Nat.le_refl _) (.cells #[.string ⟨#[]⟩, .slice none 0 0, .int .i64 0, .slice none 0 0, .string ⟨#[]⟩, .int .i64 0, .int .i64 0, .int .i64 0] 32)
  have hnew := l1New sa sl sc (w.alloc (.cells #[.string ⟨#[]⟩, .slice none 0 0, .int .i64 0, .slice none 0 0, .string ⟨#[]⟩, .int .i64 0, .int .i64 0, .int .i64 0] 32)) (code_onV hc ha) hl
  have ez : (w.alloc (.cells #[.string ⟨#[]⟩, .slice none 0 0, .int .i64 0, .slice none 0 0, .string ⟨#[]⟩, .int .i64 0, .int .i64 0, .int .i64 0] 32)).heap.size = w.heap.size + 1 := by simp
  rw [ez] at hnew
  go_enter Tryz.func9, Tryz.ntmps9
  go_wp2_with fail
  refine hnew.mono ?_
  rintro e w1 ⟨rfl, hc1, hb1⟩
  have N1 : ObB w1 w.heap.size noO (.slice none 0 0) (.slice none 0 0) := (ObB.new w noO (.slice none 0 0) (.slice none 0 0) 32).same (hb1.block _ (by simp)) (by have := hb1.size; simp at this ⊢; omega)
  have B1 : Below w.heap.size w w1 := ha.trans (hb1.mono (by simp))
  have hz1 : w.heap.size + 1 < w1.heap.size := hc1.2.2.1
  clear hnew hb1 ha hc hB ez
  go_wp2_with fail
  refine (l10DrawAnyO (w.heap.size + 1) sa sl sc w1 hc1).mono ?_
  rintro e w2 ⟨⟨v, rfl, o, p, u, rfl, h1, h2, hfew⟩, hc2, hb2⟩
  obtain ⟨pa, pc, rfl, _, _⟩ := h1.form
  obtain ⟨ua, uc, rfl, _, _⟩ := h2.form
  have N2 : ObB w2 w.heap.size noO (.slice none 0 0) (.slice none 0 0) := N1.beside hb2 (by omega)
  have hz2 : w1.heap.size ≤ w2.heap.size := hb2.2.2.2.1
  have L4 : Hid (LocO (w2.alloc (.cells #[.string o.k, .slice pa o.l.length pc, .int .i64 o.r.s, .slice ua o.r.l.length uc, .string o.r.b, .int .i64 o.asked, .int .i64 o.got, .int .i64 o.ep] 32)) w.heap.size w2.heap.size B o (.slice pa o.l.length pc) (.slice ua o.r.l.length uc)) := ⟨ObB.new w2 o _ _ _, N2.alloc _, ⟨_, newAt w2 _⟩, (h1.low (by have := HB.out; omega)).alloc _, (h2.low (by have := HB.out; omega)).alloc _⟩
  have C4 : Hid (Cur (w2.alloc (.cells #[.string o.k, .slice pa o.l.length pc, .int .i64 o.r.s, .slice ua o.r.l.length uc, .string o.r.b, .int .i64 o.asked, .int .i64 o.got, .int .i64 o.ep] 32)) (w.heap.size + 1) sa sl sc) := hc2.more9 _
  have B4 : Hid (Below w.heap.size w (w2.alloc (.cells #[.string o.k, .slice pa o.l.length pc, .int .i64 o.r.s, .slice ua o.r.l.length uc, .string o.r.b, .int .i64 o.asked, .int .i64 o.got, .int .i64 o.ep] 32))) := (B1.trans (hb2.low (by omega) (by omega))).alloc (by omega) _
  have hg1 : w2.heap.size ≠ w.heap.size + 1 := by omega
  have hn1 : w.heap.size ≠ w.heap.size + 1 := by omega
  have HFW : Hid (FewO o) := hfew
  clear h1 h2 hc1 hc2 hb2 N1 N2 B1 hfew
  unfold obV
  go_upto_region 3 with fail
  generalize w2.alloc (.cells #[.string o.k, .slice pa o.l.length pc, .int .i64 o.r.s, .slice ua o.r.l.length uc, .string o.r.b, .int .i64 o.asked, .int .i64 o.got, .int .i64 o.ep] 32) = w4 at L4 C4 B4 ⊢
  go_wp2_with fail
  refine (l10DrawAsks (w.heap.size + 1) sa sl sc _ C4.out).mono ?_
  rintro e w5 ⟨⟨q, al, rfl, hq, hqf⟩, hc5, hb5⟩
  obtain ⟨qa, qc, rfl, _, _⟩ := hq.form
  have Q5 : Hid (OwnsF w5 B (.slice qa al.length qc) al) := hq.low (by have := C4.out.2.2.1; have := HB.out; omega)
  have QF : Hid (FewF 2 al) := hqf
  have L5 : Hid (LocO w5 w.heap.size w2.heap.size B o (.slice pa o.l.length pc) (.slice ua o.r.l.length uc)) := L4.out.beside hb5 hn1 hg1 hBb
  have B5 : Hid (Below w.heap.size w w5) := B4.out.trans (hb5.low (by omega) (by have := B4.out.size; omega))
  have C5 : Hid (Cur w5 (w.heap.size + 1) sa sl sc) := hc5
  clear hb5 hc5 hq hqf C4 L4 B4
  go_wp2_with fail
  refine (l1Once (w.heap.size + 1) sa sl sc 2 (by decide) (by decide) _ C5.out).mono ?_
  rintro e w6 ⟨tt, rfl, hc6, hb6⟩
  have Q6 : Hid (OwnsF w6 B (.slice qa al.length qc) al) := Q5.out.beside10 hb6 hBb
  have L6 : Hid (LocO w6 w.heap.size w2.heap.size B o (.slice pa o.l.length pc) (.slice ua o.r.l.length uc)) := L5.out.beside hb6 hn1 hg1 hBb
  have B6 : Hid (Below w.heap.size w w6) := B5.out.trans (hb6.low (by omega) (by have := B5.out.size; omega))
  have C6 : Hid (Cur w6 (w.heap.size + 1) sa sl sc) := hc6
  clear hb6 hc6 C5 L5 B5 Q5
  have c0 := L6.out.lb.c0
  have c1 := L6.out.lb.c1
  cases tt with
  | false =>
    go_wp2_with fail
    refine (l1Once (w.heap.size + 1) sa sl sc 6 (by decide) (by decide) _ C6.out).mono ?_
    rintro e w7 ⟨t7, rfl, hc7, hb7⟩
    have Q7 : Hid (OwnsF w7 B (.slice qa al.length qc) al) := Q6.out.beside10 hb7 hBb
    have L7 : Hid (LocO w7 w.heap.size w2.heap.size B o (.slice pa o.l.length pc) (.slice ua o.r.l.length uc)) := L6.out.beside hb7 hn1 hg1 hBb
    have B7 : Hid (Below w.heap.size w w7) := B6.out.trans (hb7.low (by omega) (by have := B6.out.size; omega))
    have C7 : Hid (Cur w7 (w.heap.size + 1) sa sl sc) := hc7
    clear hb7 hc7 C6 L6 B6 Q6 c0 c1
    cases t7 with
    | false =>
      have HF : Hid _ := L7.out.fin (show w.heap.size < B by have := HB.out; omega)
      have qp := Q7.out.putL10 (show w.heap.size < B by have := HB.out; omega) (obL o (.slice pa o.l.length pc) (.slice ua o.r.l.length uc)) 0
      have QP : Hid (OwnsF (putL w7 w.heap.size (obL o (.slice pa o.l.length pc) (.slice ua o.r.l.length uc)) 0) w.heap.size (.slice qa al.length qc) al) := qp.low (by have := HB.out; omega)
      obtain ⟨z0, z1, z2, z3, z4, z5', z6, z7, zf, zh⟩ := L7.out.nb
      obtain ⟨c0, c1, c2, c3, c4, c5, c6, c7, cf, ch⟩ := L7.out.lb
      simp only [noO, noS] at z0 z1 z2 z3 z4 z5' z6 z7
      clear qp L7 C7 Q7
      go_wp2
      obtain ⟨hp, bp, vp, up⟩ := HF.out
      have qp := QP.out
      obtain ⟨p0, p1, p2, p3, p4, p5, p6, p7, pf, ph⟩ := hp
      simp only [obL, putL, Nat.zero_add, Nat.reduceAdd] at p0 p1 p2 p3 p4 p5 p6 p7 bp vp up qp
      refine bodyPost_ret (v := .tuple #[obV o (.slice pa o.l.length pc) (.slice ua o.r.l.length uc), .string o.k, .slice qa al.length qc]) (by unfold obV; simp [results, Tryz.results9, go_sem, p0, p1, p2, p3, p4, p5, p6, p7]) rfl ⟨o, _, _, o.k, _, al, rfl, vp, up, HFW.out, HFW.out.1, qp, QF.out, B7.out.trans (bp.mono (Nat.le_refl _))⟩
    | true =>
      have HF : Hid _ := L7.out.fin (show w.heap.size < B by have := HB.out; omega)
      have qp := Q7.out.putL10 (show w.heap.size < B by have := HB.out; omega) (obL o (.slice pa o.l.length pc) (.slice ua o.r.l.length uc)) 0
      have QP : Hid (OwnsF (putL w7 w.heap.size (obL o (.slice pa o.l.length pc) (.slice ua o.r.l.length uc)) 0) w.heap.size (.slice qa al.length qc) al) := qp.low (by have := HB.out; omega)
      obtain ⟨z0, z1, z2, z3, z4, z5', z6, z7, zf, zh⟩ := L7.out.nb
      obtain ⟨c0, c1, c2, c3, c4, c5, c6, c7, cf, ch⟩ := L7.out.lb
      simp only [noO, noS] at z0 z1 z2 z3 z4 z5' z6 z7
      clear qp L7 C7 Q7
      go_wp2
      obtain ⟨hp, bp, vp, up⟩ := HF.out
      have qp := QP.out
      obtain ⟨p0, p1, p2, p3, p4, p5, p6, p7, pf, ph⟩ := hp
      simp only [obL, putL, Nat.zero_add, Nat.reduceAdd] at p0 p1 p2 p3 p4 p5 p6 p7 bp vp up qp
      refine bodyPost_ret (v := .tuple #[obV o (.slice pa o.l.length pc) (.slice ua o.r.l.length uc), .string ⟨#[104, 47, 122, 122]⟩, .slice qa al.length qc]) (by unfold obV; simp [results, Tryz.results9, go_sem, p0, p1, p2, p3, p4, p5, p6, p7]) rfl ⟨o, _, _, ⟨#[104, 47, 122, 122]⟩, _, al, rfl, vp, up, HFW.out, (by show (⟨#[104, 47, 122, 122]⟩ : ByteArray).size ≤ 600; decide), qp, QF.out, B7.out.trans (bp.mono (Nat.le_refl _))⟩
  | true =>
    go_wp2_with fail
    refine (l1Once (w.heap.size + 1) sa sl sc 6 (by decide) (by decide) _ C6.out).mono ?_
    rintro e w7 ⟨t7, rfl, hc7, hb7⟩
    have Q7 : Hid (OwnsF w7 B (.slice qa al.length qc) al) := Q6.out.beside10 hb7 hBb
    have L7 : Hid (LocO w7 w.heap.size w2.heap.size B o (.slice pa o.l.length pc) (.slice ua o.r.l.length uc)) := L6.out.beside hb7 hn1 hg1 hBb
    have B7 : Hid (Below w.heap.size w w7) := B6.out.trans (hb7.low (by omega) (by have := B6.out.size; omega))
    have C7 : Hid (Cur w7 (w.heap.size + 1) sa sl sc) := hc7
    clear hb7 hc7 C6 L6 B6 Q6 c0 c1
    cases t7 with
    | false =>
      have HF : Hid _ := L7.out.fin (show w.heap.size < B by have := HB.out; omega)
      have qp := Q7.out.putL10 (show w.heap.size < B by have := HB.out; omega) (obL o (.slice pa o.l.length pc) (.slice ua o.r.l.length uc)) 0
      have QP : Hid (OwnsF (putL w7 w.heap.size (obL o (.slice pa o.l.length pc) (.slice ua o.r.l.length uc)) 0) w.heap.size (.slice qa al.length qc) al) := qp.low (by have := HB.out; omega)
      obtain ⟨z0, z1, z2, z3, z4, z5', z6, z7, zf, zh⟩ := L7.out.nb
      obtain ⟨c0, c1, c2, c3, c4, c5, c6, c7, cf, ch⟩ := L7.out.lb
      simp only [noO, noS] at z0 z1 z2 z3 z4 z5' z6 z7
      clear qp L7 C7 Q7
      go_wp2
      obtain ⟨hp, bp, vp, up⟩ := HF.out
      have qp := QP.out
      obtain ⟨p0, p1, p2, p3, p4, p5, p6, p7, pf, ph⟩ := hp
      simp only [obL, putL, Nat.zero_add, Nat.reduceAdd] at p0 p1 p2 p3 p4 p5 p6 p7 bp vp up qp
      refine bodyPost_ret (v := .tuple #[obV o (.slice pa o.l.length pc) (.slice ua o.r.l.length uc), .string o.k, .slice pa o.l.length pc]) (by unfold obV; simp [results, Tryz.results9, go_sem, p0, p1, p2, p3, p4, p5, p6, p7]) rfl ⟨o, _, _, o.k, _, o.l, rfl, vp, up, HFW.out, HFW.out.1, vp, HFW.out.2.1, B7.out.trans (bp.mono (Nat.le_refl _))⟩
    | true =>
      have HF : Hid _ := L7.out.fin (show w.heap.size < B by have := HB.out; omega)
      have qp := Q7.out.putL10 (show w.heap.size < B by have := HB.out; omega) (obL o (.slice pa o.l.length pc) (.slice ua o.r.l.length uc)) 0
      have QP : Hid (OwnsF (putL w7 w.heap.size (obL o (.slice pa o.l.length pc) (.slice ua o.r.l.length uc)) 0) w.heap.size (.slice qa al.length qc) al) := qp.low (by have := HB.out; omega)
      obtain ⟨z0, z1, z2, z3, z4, z5', z6, z7, zf, zh⟩ := L7.out.nb
      obtain ⟨c0, c1, c2, c3, c4, c5, c6, c7, cf, ch⟩ := L7.out.lb
      simp only [noO, noS] at z0 z1 z2 z3 z4 z5' z6 z7
      clear qp L7 C7 Q7
      go_wp2
      obtain ⟨hp, bp, vp, up⟩ := HF.out
      have qp := QP.out
      obtain ⟨p0, p1, p2, p3, p4, p5, p6, p7, pf, ph⟩ := hp
      simp only [obL, putL, Nat.zero_add, Nat.reduceAdd] at p0 p1 p2 p3 p4 p5 p6 p7 bp vp up qp
      refine bodyPost_ret (v := .tuple #[obV o (.slice pa o.l.length pc) (.slice ua o.r.l.length uc), .string ⟨#[104, 47, 122, 122]⟩, .slice pa o.l.length pc]) (by unfold obV; simp [results, Tryz.results9, go_sem, p0, p1, p2, p3, p4, p5, p6, p7]) rfl ⟨o, _, _, ⟨#[104, 47, 122, 122]⟩, _, o.l, rfl, vp, up, HFW.out, (by show (⟨#[104, 47, 122, 122]⟩ : ByteArray).size ≤ 600; decide), vp, HFW.out.2.1, B7.out.trans (bp.mono (Nat.le_refl _))⟩
end Go.Proofs.YtnachhmhjodbhaaGreatDoor

/-
  The program's copies of Shelves, and Used.
-/
import Derived.Test.YtnnmbgenepfacaaRpI
import Derived.Test.YtnnmbgenepfacaaRpJ
import Derived.Test.YtnnmbgenepfacaaShelfK
namespace Go.Proofs.Ytnnmbgenepfacaa
open Go.RowKit Go.Sort Rom
set_option linter.unusedVariables false
set_option linter.unusedSimpArgs false

theorem implCln (s : ByteArray) (w : World) (hs : s.size ≤ 281474976710656) :
    Calls Try.prog 75 #[.string s] w fun e w' => e = .returned (.string s) ∧ Below w.heap.size w w' := by
  go_enter Try.func75, Try.ntmps75
  go_wp2_with (go_at_call 93; refine (Try.stringslite_Clone s _ hs).mono ?_; rintro e w1 ⟨rfl, hb1⟩)
  go_ret
  exact ⟨rfl, hb1⟩
/-- A block of two cells. -/
structure TwoB (w : World) (b : Nat) (x y : Value) : Prop where
  c0 : w.cell? ⟨b, 0, none⟩ = some x
  c1 : w.cell? ⟨b, 1, none⟩ = some y
  f0 : w.frozen? ⟨b, 0, none⟩ = false
  f1 : w.frozen? ⟨b, 1, none⟩ = false
  lt : b < w.heap.size
theorem TwoB.kept {w w' : World} {b : Nat} {x y : Value} {B : Nat} (h : TwoB w b x y) (hb : Below B w w') (hB : b < B) : TwoB w' b x y :=
  ⟨(hb.cell (p := ⟨b, 0, none⟩) hB).trans h.c0, (hb.cell (p := ⟨b, 1, none⟩) hB).trans h.c1, (hb.frozen (p := ⟨b, 0, none⟩) hB).trans h.f0, (hb.frozen (p := ⟨b, 1, none⟩) hB).trans h.f1, Nat.lt_of_lt_of_le h.lt hb.size⟩
theorem TwoB.new (w : World) (x y : Value) (ty : TypeId) : TwoB (w.alloc (.cells #[x, y] ty)) w.heap.size x y :=
  ⟨by rw [World.cell?_alloc_mark]; rfl, by rw [World.cell?_alloc_mark]; rfl, by simp [go_sem], by simp [go_sem], by simp⟩
/-- Two cells of a block below a call's own are stored: the rest stays. -/
theorem OwnsE.two {α : Type} {E : Enc α} {ty : TypeId} {w : World} {B b : Nat} {v : Value} {l : List α} (h : OwnsE E ty w B v l) (hne : ∀ k, v.ownBlock = some k → k ≠ b) (x y : Value) : OwnsE E ty ((w.setCell ⟨b, 0, Option.none⟩ x).setCell ⟨b, 1, Option.none⟩ y) B v l := (h.other _ _ hne).other _ _ hne
set_option maxRecDepth 100000 in
set_option maxHeartbeats 4000000 in
theorem implShOf (q : Int) (v : Value) (l : List It) (w : World) (h : Sls itE w v l) (hl : l.length ≤ 100) (hs : ∀ x ∈ l, x.1.size ≤ 500) :
    Calls Try.prog 70 #[.int .i64 q, v] w fun e w' => ∃ u, e = .returned (shV q u) ∧ OwnsI8 w' w.heap.size u l ∧ Below w.heap.size w w' := by
  obtain ⟨a, cap, rfl, h1, h2, h3⟩ := h.itm
  clear h
  unfold maxLen at h2
  have T0 := TwoB.new w (.int .i64 0) (.slice none 0 0) 34
  have BA : Below w.heap.size w (w.alloc (.cells #[.int .i64 0, .slice none 0 0] 34)) := (Below.refl _ w).alloc (Nat.le_refl _) _
  have hzA : (w.alloc (.cells #[.int .i64 0, .slice none 0 0] 34)).heap.size = w.heap.size + 1 := by simp
  generalize hwA : w.alloc (.cells #[.int .i64 0, .slice none 0 0] 34) = wA at T0 BA hzA
  obtain ⟨i0, hi, hz0, hz1, hz2⟩ := info_parts Try.infoIT
  obtain ⟨w0, hrun, hown, hgr⟩ := run_make_full (P := Try.prog) wA wA.heap.size 32 47 i0 (.agg #[.string ⟨#[]⟩, .int .i64 0]) 2 Try.underlying32 hi hz0 hz1 .i64 .i64 l.length (by rw [hz2]; omega) (by unfold maxLen; omega) (Nat.le_refl _)
  rw [madeI, ← turnI_zero] at hown
  have hown0 : Hid (OwnsI8 w0 (w.heap.size + 1) (.slice (some ⟨w.heap.size + 1, 0, Option.none⟩) l.length l.length) (turnI l 0)) := by
    show w0.ownsRow _ _ 2 _ _ _
    rw [turnI_length l 0 (Nat.zero_le _), ← hzA]
    exact hown
  have hb00 : Below wA.heap.size wA w0 := (Below.refl _ wA).grown hgr (Nat.le_refl _) (fun j hj => by cases hj)
  have hb0 : Hid (Below w.heap.size w w0) := BA.trans (hb00.mono BA.size)
  have ht0 : Hid (TwoB w0 w.heap.size (.int .i64 0) (.slice none 0 0)) := T0.kept hb00 (by omega)
  rw [hzA] at hrun
  have HSZ : Hid (∀ x ∈ l, x.1.size ≤ 500) := hs
  have HL : Hid (∀ (k : Nat) (hk : k < l.length) W, Below w.heap.size w W → ∃ g o, a = some ⟨g, o, Option.none⟩ ∧ W.cell? ⟨g, o + k * 2, Option.none⟩ = some (.string l[k].1) ∧ W.cell? ⟨g, o + k * 2 + 1, Option.none⟩ = some (.int .i64 l[k].2)) := (show ∀ _, _ from fun k hk W hW => by
    obtain ⟨g, o, ha, hg, hc⟩ := h3 (by omega)
    exact ⟨g, o, ha, (hW.cell (p := ⟨g, o + k * 2, none⟩) hg).trans (hc k hk).1, (hW.cell (p := ⟨g, o + k * 2 + 1, none⟩) hg).trans (hc k hk).2⟩)
  clear hown hgr hi hz0 hz1 hz2 hb00 T0 BA hs h3
  go_enter Try.func70, Try.ntmps70
  go_wp2
  clear hrun hwA hzA
  go_loopw [13] (fun i wr => ∃ k : Nat, k ≤ l.length ∧ i = .int .i64 k ∧ Hid (OwnsI8 wr (w.heap.size + 1) (.slice (some ⟨w.heap.size + 1, 0, Option.none⟩) l.length l.length) (turnI l k)) ∧ Hid (TwoB wr w.heap.size (.int .i64 0) (.slice none 0 0)) ∧ Hid (Below w.heap.size w wr)) (fun i _ => l.length - (intOf i).toNat)
  case atStart => exact ⟨0, Nat.zero_le _, rfl, hown0, ht0, hb0⟩
  case round =>
    clear hown0 hb0 ht0
    obtain ⟨k, hk, rfl, ho, ht, hb⟩ := hrel
    by_cases hlt : k < l.length
    · obtain ⟨g, o, rfl, c1, c2⟩ := HL.out k hlt wr hb.out
      have hki : (k : Int) < (l.length : Int) := by omega
      have hnx := turnI_next l k hlt
      have hln := turnI_length l k hk
      have hsz := HSZ.out _ (List.getElem_mem hlt)
      generalize l[k] = f at c1 c2 hnx hsz
      obtain ⟨l2, hl2⟩ : ∃ z, z = turnI l (k + 1) := ⟨_, rfl⟩
      rw [← hl2] at hnx
      have HL2 : Hid (l2 = turnI l (k + 1)) := hl2
      generalize turnI l k = l1 at ho hnx hln
      have HNX : Hid (l1.set k f = l2) := hnx
      have HLN : Hid (l1.length = l.length) := hln
      obtain ⟨f1, f2⟩ := f
      dsimp only at c1 c2 hsz
      have hz := hb.out.size
      have hcl := fun W => implCln f1 W (by omega)
      clear hnx hln hl2
      go_wp2_with fail
      have T1 : Hid (TwoB (wr.alloc (.cells #[.string f1, .int .i64 f2] 47)) wr.heap.size (.string f1) (.int .i64 f2)) := TwoB.new _ _ _ _
      have oA : Hid (OwnsI8 (wr.alloc (.cells #[.string f1, .int .i64 f2] 47)) (w.heap.size + 1) (.slice (some ⟨w.heap.size + 1, 0, Option.none⟩) l.length l.length) l1) := ho.out.alloc _
      have tA : Hid (TwoB (wr.alloc (.cells #[.string f1, .int .i64 f2] 47)) w.heap.size (.int .i64 0) (.slice none 0 0)) := ht.out.kept ((Below.refl _ wr).alloc (Nat.le_refl _) _) ht.out.lt
      have bA : Hid (Below w.heap.size w (wr.alloc (.cells #[.string f1, .int .i64 f2] 47))) := (show Hid _ from hb.out.alloc hz _)
      have hzA : (wr.alloc (.cells #[.string f1, .int .i64 f2] 47)).heap.size = wr.heap.size + 1 := by simp
      generalize wr.alloc (.cells #[.string f1, .int .i64 f2] 47) = wA at T1 oA tA bA hzA ⊢
      obtain ⟨x0, x1, _, _, xl⟩ := T1.out
      clear ho ht hb c1 c2
      go_region_with (go_at_call 75; refine (hcl _).mono ?_; rintro e w1 ⟨rfl, hb1⟩; have ho1 : Hid (OwnsI8 w1 (w.heap.size + 1) (.slice (some ⟨w.heap.size + 1, 0, Option.none⟩) l.length l.length) l1) := oA.out.kept (by exact ⟨hb1.os, hb1.tape, hb1.output, hb1.size, hb1.block⟩); have fr := ho1.out.free HLN.out.symm; have y1 : w1.cell? ⟨wr.heap.size, 1, none⟩ = some (.int .i64 f2) := (hb1.cell (p := ⟨wr.heap.size, 1, none⟩) xl).trans x1; obtain ⟨d1, d2⟩ := ownsI_at ho1.out k (by rw [HLN.out]; exact hlt); have ht1 : Hid (TwoB w1 w.heap.size (.int .i64 0) (.slice none 0 0)) := tA.out.kept (by exact ⟨hb1.os, hb1.tape, hb1.output, hb1.size, hb1.block⟩) tA.out.lt; have hbl1 : Hid (Below w.heap.size w w1) := Below.trans bA.out (Below.mono (by exact ⟨hb1.os, hb1.tape, hb1.output, hb1.size, hb1.block⟩) bA.out.size); clear hb1)
      all_goals
        have hp := ownsI_put HLN.out.symm ho1.out (j := k) (by rw [HLN.out]; exact hlt) (f1, f2)
        rw [HNX.out] at hp
        have HP : Hid _ := hp
        have HT : Hid (TwoB ((w1.setCell ⟨w.heap.size + 1, k * 2, Option.none⟩ (.string f1)).setCell ⟨w.heap.size + 1, k * 2 + 1, Option.none⟩ (.int .i64 f2)) w.heap.size (.int .i64 0) (.slice none 0 0)) := ht1.out.kept (((Below.refl (w.heap.size + 1) w1).setCell (Nat.le_refl _) _).setCell (Nat.le_refl _) _) (Nat.lt_succ_self _)
        have HB : Hid (Below w.heap.size w ((w1.setCell ⟨w.heap.size + 1, k * 2, Option.none⟩ (.string f1)).setCell ⟨w.heap.size + 1, k * 2 + 1, Option.none⟩ (.int .i64 f2))) := (show Hid _ from (hbl1.out.setCell (Nat.le_succ _) _).setCell (Nat.le_succ _) _)
        clear hp ho1 fr y1 d1 d2 ht1 hbl1
        generalize (w1.setCell ⟨w.heap.size + 1, k * 2, Option.none⟩ (.string f1)).setCell ⟨w.heap.size + 1, k * 2 + 1, Option.none⟩ (.int .i64 f2) = w3 at HP HT HB ⊢
        go_wp2
        go_roundw
        case rel => exact ⟨k + 1, by omega, by go_num, by rw [← HL2.out]; exact HP, HT, HB⟩
        case measure => simp [intOf]; omega
    · obtain rfl : k = l.length := by omega
      rw [turnI_all] at ho
      obtain ⟨x0, x1, y0, y1, xl⟩ := ht.out
      have HNE : Hid (∀ k, (Value.slice (some ⟨w.heap.size + 1, 0, Option.none⟩) l.length l.length).ownBlock = some k → k ≠ w.heap.size) := (show ∀ _, _ from fun k hk => by have := ho.out.from k hk; omega)
      have HO : Hid (OwnsI8 ((wr.setCell ⟨w.heap.size, 0, none⟩ (.int .i64 q)).setCell ⟨w.heap.size, 1, none⟩ (.slice (some ⟨w.heap.size + 1, 0, Option.none⟩) l.length l.length)) w.heap.size (.slice (some ⟨w.heap.size + 1, 0, Option.none⟩) l.length l.length) l) := (ho.out.two HNE.out _ _).low (Nat.le_succ _)
      have HB : Hid (Below w.heap.size w ((wr.setCell ⟨w.heap.size, 0, none⟩ (.int .i64 q)).setCell ⟨w.heap.size, 1, none⟩ (.slice (some ⟨w.heap.size + 1, 0, Option.none⟩) l.length l.length))) := (show Hid _ from (hb.out.setCell (Nat.le_refl _) _).setCell (Nat.le_refl _) _)
      clear ht
      go_wp2
      refine bodyPost_ret (v := .agg #[.int .i64 q, .slice (some ⟨w.heap.size + 1, 0, Option.none⟩) l.length l.length]) (by simp [results, Try.results70, go_sem, x0, x1]) rfl ⟨_, rfl, HO.out, HB.out⟩
theorem filt_no {key : ByteArray} {l : List It} (h : key ∉ l.map Prod.fst) : l.filter (fun x => !decide (x.1 = key)) = l ∧ l.filter (fun x => decide (x.1 = key)) = [] := by
  refine ⟨List.filter_eq_self.2 fun x hx => ?_, List.filter_eq_nil_iff.2 fun x hx => ?_⟩
  · have : ¬ x.1 = key := fun e => h (by rw [← e]; exact List.mem_map.2 ⟨x, hx, rfl⟩)
    rw [decide_eq_false this]; rfl
  · have : ¬ x.1 = key := fun e => h (by rw [← e]; exact List.mem_map.2 ⟨x, hx, rfl⟩)
    rw [decide_eq_false this]; decide
theorem filt_at {key : ByteArray} {l : List It} {k : Nat} (hn : (l.map (·.1)).Nodup) (hk : k < l.length) (e : l[k].1 = key) : l.filter (fun x => !decide (x.1 = key)) = l.eraseIdx k ∧ l.filter (fun x => decide (x.1 = key)) = [l[k]] := by
  have hs : l = l.take k ++ l[k] :: l.drop (k + 1) := by rw [← List.drop_eq_getElem_cons hk, List.take_append_drop]
  have hn2 : ((l.take k ++ l[k] :: l.drop (k + 1)).map (·.1)).Nodup := hs ▸ hn
  rw [List.map_append, List.map_cons, List.nodup_append] at hn2
  obtain ⟨_, n2, n3⟩ := hn2
  have h1 : key ∉ (l.take k).map Prod.fst := fun hm => n3 key hm l[k].1 (List.mem_cons_self ..) e.symm
  have h2 : key ∉ (l.drop (k + 1)).map Prod.fst := fun hm => (List.nodup_cons.1 n2).1 (by rw [e]; exact hm)
  have f1 := filt_no h1
  have f2 := filt_no h2
  constructor
  · rw [List.eraseIdx_eq_take_drop_succ]
    conv => lhs; rw [hs]
    rw [List.filter_append, f1.1, List.filter_cons_of_neg (by rw [decide_eq_true e]; decide), f2.1]
  · conv => lhs; rw [hs]
    rw [List.filter_append, f1.2, List.filter_cons_of_pos (by rw [decide_eq_true e]), f2.2]
    rfl
theorem usd_at {key : ByteArray} {l : List It} {k : Nat} (hn : (l.map (·.1)).Nodup) (hk : k < l.length) (e : l[k].1 = key) : l[k] :: l.eraseIdx k = usdI key l := by
  unfold usdI
  rw [(filt_at hn hk e).1, (filt_at hn hk e).2]
  rfl
theorem usd_no {key : ByteArray} {l : List It} (h : key ∉ l.map Prod.fst) : l = usdI key l := by
  unfold usdI
  rw [(filt_no h).1, (filt_no h).2]
  rfl
/-- What Used answers: a quota and its items. -/
def usdQ (q : Int) (l : List It) : Int := if shOk q l = true then q else 0
def usdL (q : Int) (l : List It) (key : ByteArray) : List It := if shOk q l = true then usdI key l else []
end Go.Proofs.Ytnnmbgenepfacaa

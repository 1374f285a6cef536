/-
  The program's ReadControl by its contract.
-/
import Derived.Test.YtccnkmffadmfhaaDoorCtqP
import Derived.Test.YtccnkmffadmfhaaDoorCtlK
import Derived.Test.YtccnkmffadmfhaaDoorLow
import Derived.Test.YtccnkmffadmfhaaDoorShelfC
import Derived.Test.YtccnkmffadmfhaaDoorItems2
namespace Go.Proofs.YtccnkmffadmfhaaDoor
open Go.RowKit Go.Sort
set_option linter.unusedVariables false
set_option linter.unusedSimpArgs false

theorem cutEq (s : ByteArray) (m : Int) (w : World) (hs : s.size ≤ 1000) (hm : w.cell? ⟨0, 0, Option.none⟩ = some (.int .i64 m)) :
    Calls Tryd.prog 38 #[.string s, .string ⟨#[61]⟩] w fun e w' => e = .returned (.tuple #[.string (eqA s), .string (eqB s), .bool (eqC s)]) ∧ Below w.heap.size w w' :=
  (Tryd.strings_Cut s ⟨#[61]⟩ m w (by omega) hm).mono fun e w' ⟨h1, n, h2⟩ => ⟨h1, by rw [h2]; exact ⟨rfl, rfl, rfl, Nat.le_refl _, fun _ _ => rfl⟩⟩
theorem eq_size (s : ByteArray) : (eqA s).size ≤ s.size ∧ (eqB s).size ≤ s.size := by
  have hl : s.data.toList.length = s.size := by simp
  have k : (Lib.cut s.data.toList [61]).1.length ≤ s.data.toList.length ∧ (Lib.cut s.data.toList [61]).2.1.length ≤ s.data.toList.length := by
    unfold Lib.cut
    split <;> simp <;> omega
  rw [hl] at k
  exact ⟨by show (Lib.cut s.data.toList [61]).1.toArray.size ≤ _; simpa using k.1, by show (Lib.cut s.data.toList [61]).2.1.toArray.size ≤ _; simpa using k.2⟩
theorem lt_cell9 {w : World} {b o : Nat} {v : Value} (h : w.cell? ⟨b, o, Option.none⟩ = some v) : b < w.heap.size := by
  obtain ⟨c, e, fr, hb, _⟩ := cells_of_cell? h
  exact (Array.getElem?_eq_some_iff.1 hb).1
theorem BlkE.grown {α : Type} {E : Enc α} {w w' : World} {b : Nat} {x : α} {r : Option Nat} (h : BlkE E w b x) (hg : w.grownBy w' r) (hne : some b ≠ r) : BlkE E w' b x := h.same (hg.block b h.hi (fun e => hne e)) hg.size
set_option maxHeartbeats 1000000 in
theorem implDir (p : Nat) (w : World) : Calls Tryd.prog 14 #[.pointer (some ⟨p, 0, Option.none⟩)] w fun e w' => e = .returned (.map (some w.heap.size)) ∧ FnM w' w.heap.size p tb9 ∧ Below w.heap.size w w' := by
  have hu : Tryd.prog.underlying 38 = some (.map 9 42) := by kernel_rfl
  have hmk : ∀ W, (Instr.makeMap 38 Option.none).run Tryd.prog W = .ok (.map (some W.heap.size)) (W.alloc (.map #[] 0)) := fun W => by kernel_rfl
  have hF : FnM (w.alloc (.map #[] 0)) w.heap.size p [] := FnM.made w p
  have hb1 : (w.alloc (.map #[] 0)).grownBy (w.alloc (.map #[] 0)) (some w.heap.size) := grownE_self _ _
  have B0 : Hid (Below w.heap.size w (w.alloc (.map #[] 0))) := (Below.refl _ w).alloc (Nat.le_refl _) _
  go_enter Tryd.func14, Tryd.ntmps14
  go_wp2_with (refine wpList_insertF _ rfl _ _ _ 38 42 rfl hu w.heap.size p _ rfl hF (by decide) _ (by decide) _ rfl rfl ?_; clear hF; intro wf hF hgf; have hb2 := hb1.trans hgf; clear hb1 hgf; have hb1 := hb2; clear hb2)
  have F1 : Hid (FnM wf w.heap.size p tb9) := hF
  have B1 : Hid (Below w.heap.size w wf) := belowE B0.out hb1 B0.out.size (by intro k hk; cases hk; omega)
  clear hF hb1 B0 hmk
  go_ret
  exact ⟨rfl, F1.out, B1.out⟩
theorem key_size {x : ByteArray} (h : x.size ≤ 400) : (key9 x).size ≤ 401 ∧ (eqB x).size ≤ 400 := by
  have k := eq_size x
  refine ⟨?_, by omega⟩
  unfold key9
  split
  · rw [ByteArray.size_append]
    show (eqA x).size + 1 ≤ 401
    omega
  · omega
set_option maxHeartbeats 1000000 in
theorem implDof (x : ByteArray) (m : Int) (w : World) (hs : x.size ≤ 400) (hm : w.cell? ⟨0, 0, Option.none⟩ = some (.int .i64 m)) :
    Calls Tryd.prog 16 #[.string x] w fun e w' => e = .returned (.tuple #[.string (key9 x), .string (eqB x)]) ∧ Below w.heap.size w w' := by
  have hce := cutEq x m w (by omega) hm
  have hez := eq_size x
  have HY : Hid (eqC x = true → eqA x ++ ⟨#[61]⟩ = key9 x) := fun h => by unfold key9; rw [if_pos h]
  have HN : Hid (eqC x = false → eqA x = key9 x ∧ (⟨#[]⟩ : ByteArray) = eqB x) := fun h => ⟨by unfold key9; rw [if_neg (by rw [h]; decide)], by
    have h1 : eqB x = ByteArray.empty := by simpa using (eq_no h).2
    rw [h1]
    rfl⟩
  generalize key9 x = K at HY HN ⊢
  generalize eqA x = xa at hce HY HN hez
  generalize eqB x = xb at hce HN hez ⊢
  generalize eqC x = xc at hce HY HN
  have hsz : (xa ++ (⟨#[61]⟩ : ByteArray)).size = xa.size + 1 := ByteArray.size_append
  clear hm
  go_enter Tryd.func16, Tryd.ntmps16
  go_wp2_with fail
  refine hce.mono ?_
  rintro e w1 ⟨rfl, hb1⟩
  have B1 : Hid (Below w.heap.size w w1) := hb1
  clear hb1 hce
  cases xc with
  | true =>
    have H : Hid (xa ++ (⟨#[61]⟩ : ByteArray) = K) := HY.out rfl
    clear HY HN
    go_wp2
    go_ret2
    exact ⟨by rw [H.out]; rfl, B1.out⟩
  | false =>
    have H : Hid (xa = K) := (HN.out rfl).1
    have H2 : Hid ((⟨#[]⟩ : ByteArray) = xb) := (HN.out rfl).2
    clear HY HN
    go_wp2
    go_ret2
    exact ⟨by rw [H.out, ← H2.out]; rfl, B1.out⟩
theorem fold_ok (l : List ByteArray) : ctB (l.foldl (fun c t => stX c (lowT t)) ctN) = true := by
  have e : (fun (c : Ct) (t : ByteArray) => stX c (lowT t)) = fun c t => stp c (lowT t) := by funext c t; exact stX_is c _
  rw [e]
  exact rdL_ok (fun t => (numV_bound9 t).1) l
set_option maxRecDepth 100000 in
set_option maxHeartbeats 8000000 in
theorem implRdC (s : ByteArray) (m : Int) (w : World) (hs : s.size ≤ 1048576) (hm : w.cell? ⟨0, 0, Option.none⟩ = some (.int .i64 m)) :
    Calls Tryd.prog 6 #[.string s] w fun e w' => e = .returned (ctV (rdCt s)) ∧ Below w.heap.size w w' := by
  have hrd : rdCt s = (itemsA s).foldl (fun c t => stX c (lowT t)) ctN := by
    have e : (fun (c : Ct) (t : ByteArray) => stX c (lowT t)) = fun c t => stp c (lowT t) := by funext c t; exact stX_is c _
    rw [e]; rfl
  rw [hrd]
  clear hrd
  have hz : ∀ W, (zeroValue 42).run Tryd.prog W = .ok .nilFunc W := fun W => by kernel_rfl
  have hu : Tryd.prog.underlying 38 = some (.map 9 42) := by kernel_rfl
  have R0 : Hid (CtB ((w.alloc (.cells #[.int .i64 0, .int .i64 0, .int .i64 0, .bool false, .bool false, .bool false, .bool false] 23)).alloc (.cells #[.int .i64 (-1), .int .i64 (-1), .int .i64 (-1), .bool false, .bool false, .bool false, .bool false] 37)) w.heap.size ctZ) := (CtB.born w ctZ 23).alloc _
  have T0 : Hid (CtB ((w.alloc (.cells #[.int .i64 0, .int .i64 0, .int .i64 0, .bool false, .bool false, .bool false, .bool false] 23)).alloc (.cells #[.int .i64 (-1), .int .i64 (-1), .int .i64 (-1), .bool false, .bool false, .bool false, .bool false] 37)) (w.heap.size + 1) ctN) := by
    have := CtB.born (w.alloc (.cells #[.int .i64 0, .int .i64 0, .int .i64 0, .bool false, .bool false, .bool false, .bool false] 23)) ctN 37
    simp only [World.size_alloc] at this
    exact this
  have B0 : Hid (Below w.heap.size w ((w.alloc (.cells #[.int .i64 0, .int .i64 0, .int .i64 0, .bool false, .bool false, .bool false, .bool false] 23)).alloc (.cells #[.int .i64 (-1), .int .i64 (-1), .int .i64 (-1), .bool false, .bool false, .bool false, .bool false] 37))) := ((Below.refl _ w).alloc (Nat.le_refl _) _).alloc (by simp) _
  have D0 := implDir (w.heap.size + 1) ((w.alloc (.cells #[.int .i64 0, .int .i64 0, .int .i64 0, .bool false, .bool false, .bool false, .bool false] 23)).alloc (.cells #[.int .i64 (-1), .int .i64 (-1), .int .i64 (-1), .bool false, .bool false, .bool false, .bool false] 37))
  have M : Hid (∀ W, Below w.heap.size w W → W.cell? ⟨0, 0, Option.none⟩ = some (.int .i64 m)) := fun W hW => (hW.cell (p := ⟨0, 0, Option.none⟩) (lt_cell9 hm)).trans hm
  have hit := fun W => implItems s W (by unfold maxLen; omega)
  have hlz := items_size s
  have hll : (itemsA s).length ≤ 1000 := by have := itemsA_length s; omega
  generalize itemsA s = l at hit hlz hll ⊢
  clear hm
  go_enter Tryd.func6, Tryd.ntmps6
  go_wp2_with fail
  refine D0.mono ?_
  rintro e wf ⟨rfl, hF, hbf⟩
  have F1 : Hid (FnM wf (w.heap.size + 1 + 1) (w.heap.size + 1) tb9) := by
    have := hF
    simp only [World.size_alloc] at this
    exact this
  have R1 : Hid (CtB wf w.heap.size ctZ) := R0.out.kept hbf
  have T1 : Hid (CtB wf (w.heap.size + 1) ctN) := T0.out.kept hbf
  have B1 : Hid (Below w.heap.size w wf) := past9 B0.out hbf
  clear hF hbf R0 T0 B0 D0
  go_wp2_with fail
  refine (hit _).mono ?_
  rintro e w1 ⟨v, rfl, ho, hb1⟩
  have ho' := ho
  obtain ⟨⟨g, cap, rfl, hg0, hg1⟩, _⟩ := ho
  have O2 : Hid (∀ j (hj : j < l.length), w1.cell? ⟨g, j, Option.none⟩ = some (.string l[j])) := ho'.at rfl
  have F2 : Hid (FnM w1 (w.heap.size + 1 + 1) (w.heap.size + 1) tb9) := F1.out.kept hb1
  have R2 : Hid (CtB w1 w.heap.size ctZ) := R1.out.kept hb1
  have T2 : Hid (CtB w1 (w.heap.size + 1) ctN) := T1.out.kept hb1
  have B2 : Hid (Below w.heap.size w w1) := B1.out.trans (hb1.mono B1.out.size)
  have hzf : w.heap.size + 1 + 1 < wf.heap.size := F1.out.lt
  have hgp : w.heap.size + 1 + 1 < g := by omega
  clear ho' hb1 F1 R1 T1 B1 hit
  go_wp2
  go_loopw [17] (fun i wr => ∃ (k : Nat), k ≤ l.length ∧ i = .int .i64 k ∧ Hid (FnM wr (w.heap.size + 1 + 1) (w.heap.size + 1) tb9) ∧ Hid (CtB wr w.heap.size ctZ) ∧ Hid (CtB wr (w.heap.size + 1) ((l.take k).foldl (fun c t => stX c (lowT t)) ctN)) ∧ Hid (Below w.heap.size w wr) ∧ Hid (w1.grownBy wr (some (w.heap.size + 1)))) (fun i _ => l.length - (intOf i).toNat)
  case atStart => exact ⟨0, Nat.zero_le _, rfl, F2, R2, T2, B2, grownE_self _ _⟩
  case round =>
    clear F2 R2 T2 B2
    obtain ⟨k, hk, rfl, hF, hR, hT, hB, hG⟩ := hrel
    by_cases hlt : k < l.length
    · have hc : wr.cell? ⟨g, k, Option.none⟩ = some (.string l[k]) := hG.out.cell (O2.out k hlt) (fun e => by simp at e; omega)
      have htz := hlz l[k] (List.getElem_mem hlt)
      have HN : Hid ((l.take (k + 1)).foldl (fun c t => stX c (lowT t)) ctN = stX ((l.take k).foldl (fun c t => stX c (lowT t)) ctN) (lowT l[k])) := by show _ = _; rw [List.take_succ_eq_append_getElem hlt, List.foldl_append]; rfl
      generalize l[k] = t at hc htz HN
      have HCk : Hid (ctB ((l.take k).foldl (fun c t => stX c (lowT t)) ctN) = true) := fold_ok _
      generalize (l.take k).foldl (fun c t => stX c (lowT t)) ctN = c at hT HN HCk
      have hlw := fun W => implLow t W (by unfold maxLen; omega)
      change ∀ W, Calls _ _ _ _ fun e w' => e = .returned (.string (lowT t)) ∧ _ at hlw
      have hxz : (lowT t).size ≤ 400 := by show ((t.data.toList.map lowB).toArray).size ≤ 400; simpa using htz
      generalize lowT t = x at hlw hxz HN
      have hez := key_size hxz
      have hce := fun W hW => implDof x m W (by omega) hW
      have HX : Hid (stX c x = match lookF tb9 (key9 x) with | some j => upC j c (eqB x) | none => c) := rfl
      generalize stX c x = c2 at HN HX
      generalize key9 x = xa at hce HX hez
      generalize eqB x = xb at hce HX hez
      go_wp2_with fail
      refine (hlw _).mono ?_
      rintro e w2 ⟨rfl, hb2⟩
      have F2 : Hid (FnM w2 (w.heap.size + 1 + 1) (w.heap.size + 1) tb9) := hF.out.kept hb2
      have R2 : Hid (CtB w2 w.heap.size ctZ) := hR.out.kept hb2
      have T2 : Hid (CtB w2 (w.heap.size + 1) c) := hT.out.kept hb2
      have B2 : Hid (Below w.heap.size w w2) := hB.out.trans (hb2.mono hB.out.size)
      have G2 : Hid (w1.grownBy w2 (some (w.heap.size + 1))) := grownE_below hG.out hb2
      clear hb2 hF hR hT hB hG hlw hc
      go_wp2_with fail
      refine (hce _ (M.out _ B2.out)).mono ?_
      rintro e w3 ⟨rfl, hb3⟩
      have F3 : Hid (FnM w3 (w.heap.size + 1 + 1) (w.heap.size + 1) tb9) := F2.out.kept hb3
      have R3 : Hid (CtB w3 w.heap.size ctZ) := R2.out.kept hb3
      have T3 : Hid (CtB w3 (w.heap.size + 1) c) := T2.out.kept hb3
      have B3 : Hid (Below w.heap.size w w3) := B2.out.trans (hb3.mono B2.out.size)
      have G3 : Hid (w1.grownBy w3 (some (w.heap.size + 1))) := grownE_below G2.out hb3
      clear hb3 F2 R2 T2 B2 G2 hce
      cases hl : lookF tb9 xa with
      | none =>
        rw [hl] at HX
        have HM : Hid ((l.take (k + 1)).foldl (fun c t => stX c (lowT t)) ctN = c) := HN.out.trans HX.out
        go_wp2_with (at_lookup; refine wpList_lookF_no _ rfl _ _ 38 42 rfl hu (hz _) (w.heap.size + 1 + 1) (w.heap.size + 1) tb9 rfl F3.out xa (by unfold maxLen; omega) rfl hl ?_)
        go_roundw
        case rel => exact ⟨k + 1, by omega, by go_num, F3, R3, by rw [HM.out]; exact T3, B3, G3⟩
        case measure => simp [intOf]; omega
      | some j =>
        rw [hl] at HX
        have HM : Hid ((l.take (k + 1)).foldl (fun c t => stX c (lowT t)) ctN = upC j c xb) := HN.out.trans HX.out
        have hup3 := upM j xa hl c HCk.out xb (by omega) (w.heap.size + 1) w3 T3.out
        rcases tb9_in hl with rfl | rfl | rfl | rfl | rfl | rfl | rfl | rfl
        all_goals
          go_wp2_with (first | (at_lookup; refine wpList_lookF_yes _ rfl _ _ 38 42 rfl hu (hz _) (w.heap.size + 1 + 1) (w.heap.size + 1) tb9 rfl F3.out xa (by unfold maxLen; omega) rfl _ hl ?_) | (refine hup3.mono ?_; rintro e w4 ⟨rfl, k1, k2⟩; have K1 : Hid _ := k1; have K2 : Hid _ := k2; clear k1 k2))
          have T4 : Hid (CtB w4 (w.heap.size + 1) ((l.take (k + 1)).foldl (fun c t => stX c (lowT t)) ctN)) := by show CtB _ _ _; rw [HM.out]; exact K1.out
          have F4 : Hid (FnM w4 (w.heap.size + 1 + 1) (w.heap.size + 1) tb9) := F3.out.grown K2.out (by intro e; injection e; omega)
          have R4 : Hid (CtB w4 w.heap.size ctZ) := R3.out.grown K2.out (by intro e; injection e; omega)
          have B4 : Hid (Below w.heap.size w w4) := belowE B3.out K2.out B3.out.size (by intro k hk; cases hk; omega)
          have G4 : Hid (w1.grownBy w4 (some (w.heap.size + 1))) := G3.out.trans K2.out
          go_roundw
          case rel => exact ⟨k + 1, by omega, by go_num, F4, R4, T4, B4, G4⟩
          case measure => simp [intOf]; omega
    · obtain rfl : k = l.length := by omega
      rw [List.take_length] at hT
      generalize hq : l.foldl (fun c t => stX c (lowT t)) ctN = q at hT
      have HQ : Hid _ := hq
      clear hq
      obtain ⟨qa, qs, qt, qns, qnc, qpr, qmu⟩ := q
      obtain ⟨t0, t1, t2, t3, t4, t5, t6⟩ := hT.out.all
      obtain ⟨z0, z1, z2, z3, z4, z5, z6⟩ := hR.out.all
      have zf := hR.out.fz
      have P1 := hR.out.puts ⟨qa, qs, qt, qns, qnc, qpr, qmu⟩
      have HP : Hid _ := CtB.all P1
      have BP : Hid _ := putL_below (B := w.heap.size) (b := w.heap.size) (Nat.le_refl _) (ctE.c ⟨qa, qs, qt, qns, qnc, qpr, qmu⟩) 0 hB.out
      unfold ctZ at z0 z1 z2 z3 z4 z5 z6
      simp only at t0 t1 t2 t3 t4 t5 t6 z0 z1 z2 z3 z4 z5 z6
      clear P1 hR hT hF hG O2
      go_wp2
      obtain ⟨p0, p1, p2, p3, p4, p5, p6⟩ := HP.out
      rw [ctE_c] at p0 p1 p2 p3 p4 p5 p6
      have bp := BP.out
      rw [ctE_c] at bp
      simp only [putL, Nat.zero_add, Nat.reduceAdd] at p0 p1 p2 p3 p4 p5 p6 bp
      exact bodyPost_ret (v := ctV ⟨qa, qs, qt, qns, qnc, qpr, qmu⟩) (by unfold ctV; simp [results, Tryd.results6, go_sem, p0, p1, p2, p3, p4, p5, p6]) rfl ⟨by rw [HQ.out], bp⟩
end Go.Proofs.YtccnkmffadmfhaaDoor

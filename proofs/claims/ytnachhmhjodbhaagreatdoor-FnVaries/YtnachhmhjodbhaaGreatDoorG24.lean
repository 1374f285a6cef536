/-
  The specification's Selecting by its contract.
  The specification's Selecting behind its face; the walk of its exact law, given what the program's own function answers.
  The contract of the program's Quoted.
  The contract of the program's Get.
-/
import Derived.Test.YtnachhmhjodbhaaGreatDoorG11
import Derived.Test.YtnachhmhjodbhaaGreatDoorG12
import Derived.Test.YtnachhmhjodbhaaGreatDoorG15
import Derived.Test.YtnachhmhjodbhaaGreatDoorG06
import Derived.Test.YtnachhmhjodbhaaGreatDoorG19
import Derived.Test.YtnachhmhjodbhaaGreatDoorG21
import Derived.Test.YtnachhmhjodbhaaGreatDoorG23
import Derived.Test.YtnachhmhjodbhaaGreatDoorG20
import Derived.Lib.QuietBelow
import Derived.BigQuiet
import Derived.Shelf.Abstract
import Derived.Deep.DeepCutAuto
namespace Go.Proofs.YtnachhmhjodbhaaGreatDoor
open Go.RowKit Go.Sort
set_option linter.unusedVariables false
set_option linter.unusedSimpArgs false

theorem any_step {nm : List ByteArray} {x : ByteArray} {j : Nat} (h : j < nm.length) : ((nm.take (j + 1)).any fun n => decide (n = x)) = (((nm.take j).any fun n => decide (n = x)) || decide (nm[j] = x)) := by
  rw [← List.take_append_getElem h, List.any_append]
  simp
theorem okN_step {l : List ByteArray} {k : Nat} (h : k < l.length) (h1 : okN (l.take k) = true) (h2 : badN (lowS l[k]) = false) : okN (l.take (k + 1)) = true := by
  unfold okN at h1 ⊢
  rw [← List.take_append_getElem h, List.all_append, h1]
  simp [h2]
theorem okN_take {l : List ByteArray} {k : Nat} (h : ¬ k < l.length) (h1 : okN (l.take k) = true) : okN l = true := by rwa [List.take_of_length_le (by omega)] at h1
theorem lowV_size (s : ByteArray) : (lowS s).size = s.size := by
  show (lowS s).data.size = s.data.size
  simp [lowS]
theorem starV {x : ByteArray} (h : ¬ x = ⟨#[42]⟩) : (x.toList == [42]) = false := by
  rw [beq_eq_false_iff_ne]
  intro e
  rw [ByteArray.toList_eq] at e
  exact h (ext_bytes (e.trans rfl))
theorem neV {x y : ByteArray} (h : ¬ y = x) : (y.toList == x.toList) = false := by
  rw [beq_eq_false_iff_ne]
  intro e
  rw [ByteArray.toList_eq, ByteArray.toList_eq] at e
  exact h (ext_bytes e)
theorem ltV {w : World} {b k : Nat} {v : Value} (h : w.cell? ⟨b, k, Option.none⟩ = some v) : b < w.heap.size := by
  refine Nat.lt_of_not_le fun hb => ?_
  have e : w.heap[b]? = none := Array.getElem?_eq_none hb
  simp [World.cell?, e] at h
theorem belowV {B : Nat} {w w1 w2 : World} {r : Option Nat} (hb : Below B w w1) (hg : w1.grownBy w2 r) (hB : B ≤ w1.heap.size) (hr : ∀ k, r = some k → B ≤ k) : Below B w w2 :=
  ⟨hg.os.trans hb.os, hg.tape.trans hb.tape, hg.output.trans hb.output, Nat.le_trans hb.size hg.size, fun k hk => (hg.block k (by omega) (fun e => by have := hr k e.symm; omega)).trans (hb.block k hk)⟩
theorem OwnsT.openV {w : World} {B : Nat} {v : Value} {l : List ByteArray} (h : OwnsT w B v l) (hl : l ≠ []) : ∃ g cap, v = .slice (some ⟨g, 0, none⟩) l.length cap := by
  obtain ⟨g, cap, hv, _⟩ := h.open hl
  exact ⟨g, cap, hv⟩
set_option maxRecDepth 100000 in
set_option maxHeartbeats 8000000 in
theorem specSelV (vary : ByteArray) (v : Value) (l : List Fl) (w : World) (h : Fits w v l) (hs : vary.size ≤ maxLen) :
    Calls Tryz.prog 37 #[.string vary, v] w fun e w' => e = .returned (.tuple #[.string (selV vary l).1, .bool (selV vary l).2]) ∧ Below w.heap.size w w' := by
  have HY : Hid (okN (itemsA vary) = true → selV vary l = (selS l (srtN (nmsL (itemsA vary))), true)) := fun hk => by unfold selV; rw [if_pos hk]
  have HN : Hid (okN (itemsA vary) = false → selV vary l = (⟨#[]⟩, false)) := fun hk => by unfold selV; rw [if_neg (by rw [hk]; decide)]
  generalize selV vary l = R at HY HN ⊢
  have hI := specItems vary (w.alloc (.cells #[] 9)) hs
  have hil := itemsA_length vary
  have his := items_size vary
  generalize itemsA vary = L at hI hil his HY HN
  obtain ⟨va, vc, rfl⟩ : ∃ a cap, v = .slice a l.length cap := by obtain ⟨a, cap, hv, _⟩ := h.1; exact ⟨a, cap, hv⟩
  have F0 : Hid (Fits w (.slice va l.length vc) l) := h
  have HIS : Hid (∀ x ∈ L, x.size ≤ 400) := his
  have B0 : Hid (Below w.heap.size w (w.alloc (.cells #[] 9))) := (Below.refl _ w).alloc (Nat.le_refl _) _
  clear h his
  go_enter Tryz.func37, Tryz.ntmps37
  go_wp2_with fail
  refine hI.mono ?_
  rintro e w1 ⟨v7, rfl, hO, hb1⟩
  obtain ⟨⟨g7, cap7, rfl, hg7, hg7s⟩, hrow⟩ := id hO
  have hc7 : Hid (∀ j (hj : j < L.length), w1.cell? ⟨g7, j, none⟩ = some (.string L[j])) := fun j hj => by
    have := hO.at rfl j hj
    exact this
  have B1 : Hid (Below w.heap.size w w1) := B0.out.trans (hb1.mono (by simp))
  have OB1 : Hid (OwnsT w1 w.heap.size (.slice (some ⟨w.heap.size, 0, none⟩) 0 0) []) := (OwnsT.born w).kept hb1
  clear hI hO hrow hb1 B0
  go_wp2_with fail
  go_loopw [6, 8] (fun u i wr => ∃ (k : Nat), k ≤ L.length ∧ i = .int .i64 k ∧ Hid (okN (L.take k) = true) ∧ Hid ((nmsL (L.take k) = [] ∧ u = .slice (some ⟨w.heap.size, 0, none⟩) 0 0) ∨ (nmsL (L.take k) ≠ [] ∧ OwnsT wr w1.heap.size u (nmsL (L.take k)))) ∧ Hid (Below w1.heap.size w1 wr)) (fun _ i _ => L.length - (intOf i).toNat)
  case atStart => exact ⟨0, Nat.zero_le _, rfl, rfl, .inl ⟨rfl, rfl⟩, Below.refl _ _⟩
  case round =>
    obtain ⟨k, hk, rfl, hok, hnm, hb⟩ := hrel
    by_cases hlt : k < L.length
    · have c7 : wr.cell? ⟨g7, k, none⟩ = some (.string L[k]) := (hb.out.cell (p := ⟨g7, k, none⟩) hg7s).trans (hc7.out k hlt)
      have htz : L[k].size ≤ 400 := HIS.out _ (List.getElem_mem hlt)
      have HNX : Hid (nmsL (L.take (k + 1)) = addN (nmsL (L.take k)) (lowS L[k])) := nmsL_next hlt
      have HBD : Hid (badN (lowS L[k]) = true → okN L = false) := okN_no hlt
      have HOK : Hid (badN (lowS L[k]) = false → okN (L.take (k + 1)) = true) := okN_step hlt hok.out
      have hlz := nmsL_length (L.take k)
      have hlk : (L.take k).length ≤ 401 := by rw [List.length_take]; omega
      have hxz : (lowS L[k]).size ≤ 400 := by rw [lowV_size]; exact htz
      have hlow := fun W => specLow L[k] W (by unfold maxLen; omega)
      generalize L[k] = t at c7 htz HNX HBD HOK hxz hlow
      generalize lowS t = x at HNX HBD HOK hxz hlow
      generalize nmsL (L.take k) = nm at hnm HNX hlz
      clear hok
      obtain ⟨gn, cn, rfl, hcn⟩ : ∃ gn cn, u6 = .slice (some ⟨gn, 0, none⟩) nm.length cn ∧ ∀ j (hj : j < nm.length), wr.cell? ⟨gn, j, none⟩ = some (.string nm[j]) ∧ gn < wr.heap.size := by
        rcases hnm.out with ⟨h1, h2⟩ | ⟨h1, h2⟩
        · subst h1
          exact ⟨w.heap.size, 0, h2, fun j hj => absurd hj (by simp)⟩
        · obtain ⟨g, cap, rfl⟩ := h2.openV h1
          exact ⟨g, cap, rfl, fun j hj => ⟨h2.cellAt rfl (by simp [hj]), (World.ownsRow.lt h2 g rfl).2⟩⟩
      have hlt2 := hlt
      go_wp2_with fail
      refine (hlow _).mono ?_
      rintro e w2 ⟨rfl, hb2⟩
      have HC2 : Hid (∀ j (hj : j < nm.length), w2.cell? ⟨gn, j, none⟩ = some (.string nm[j])) := fun j hj => (hb2.cell (p := ⟨gn, j, none⟩) (hcn j hj).2).trans (hcn j hj).1
      have hnm2 : Hid ((nm = [] ∧ (Value.slice (some ⟨gn, 0, none⟩) nm.length cn) = .slice (some ⟨w.heap.size, 0, none⟩) 0 0) ∨ (nm ≠ [] ∧ OwnsT w2 w1.heap.size (.slice (some ⟨gn, 0, none⟩) nm.length cn) nm)) := by
        rcases hnm.out with h1 | ⟨h1, h2⟩
        · exact .inl h1
        · exact .inr ⟨h1, h2.kept hb2⟩
      have hb12 : Hid (Below w1.heap.size w1 w2) := past6 hb.out hb2
      clear hb2 hcn hnm hb c7 hlow
      by_cases hst : x = ⟨#[42]⟩
      · have e1 : (x.toList == [42]) = true := by subst hst; rw [ByteArray.toList_eq]; rfl
        have HR : Hid (R = (⟨#[]⟩, false)) := HN.out (HBD.out (by unfold badN; rw [decide_eq_true hst]; rfl))
        clear hst
        go_wp2
        go_ret2
        exact ⟨by rw [HR.out]; rfl, past6 B1.out hb12.out⟩
      · have e1 : (x.toList == [42]) = false := starV hst
        have htk := fun W => specTok x W (by unfold maxLen; omega)
        have HB2 : Hid (badN x = !tokB x) := by show _ = _; unfold badN; rw [decide_eq_false hst]; rfl
        generalize tokB x = tk at htk HB2
        clear hst
        go_wp2_with fail
        refine (htk _).mono ?_
        rintro e w3 ⟨rfl, hb3⟩
        have HC3 : Hid (∀ j (hj : j < nm.length), w3.cell? ⟨gn, j, none⟩ = some (.string nm[j])) := fun j hj => (hb3.cell (p := ⟨gn, j, none⟩) (ltV (HC2.out j hj))).trans (HC2.out j hj)
        have hnm3 : Hid ((nm = [] ∧ (Value.slice (some ⟨gn, 0, none⟩) nm.length cn) = .slice (some ⟨w.heap.size, 0, none⟩) 0 0) ∨ (nm ≠ [] ∧ OwnsT w3 w1.heap.size (.slice (some ⟨gn, 0, none⟩) nm.length cn) nm)) := by
          rcases hnm2.out with h1 | ⟨h1, h2⟩
          · exact .inl h1
          · exact .inr ⟨h1, h2.kept hb3⟩
        have hb13 : Hid (Below w1.heap.size w1 w3) := past6 hb12.out hb3
        clear hb3 HC2 hnm2 hb12 htk
        cases tk with
        | false =>
          have HR : Hid (R = (⟨#[]⟩, false)) := HN.out (HBD.out HB2.out)
          go_wp2
          go_ret2
          exact ⟨by rw [HR.out]; rfl, past6 B1.out hb13.out⟩
        | true =>
          have HK1 : Hid (okN (L.take (k + 1)) = true) := HOK.out HB2.out
          clear HOK HBD HB2
          go_wp2_with fail
          go_loop [10, 11] (fun f i => ∃ (j : Nat), j ≤ nm.length ∧ i = .int .i64 j ∧ f = .bool ((nm.take j).any fun n => decide (n = x))) (fun _ i => nm.length - (intOf i).toNat)
          case atStart => exact ⟨0, Nat.zero_le _, rfl, rfl⟩
          case round =>
            obtain ⟨j, hj, rfl, rfl⟩ := hrel
            by_cases hjl : j < nm.length
            · have HS : Hid (((nm.take (j + 1)).any fun n => decide (n = x)) = (((nm.take j).any fun n => decide (n = x)) || decide (nm[j] = x))) := any_step hjl
              have c3 := HC3.out j hjl
              generalize ((nm.take j).any fun n => decide (n = x)) = fd at HS ⊢
              generalize nm[j] = y at HS c3
              cases fd with
              | true =>
                go_wp2
                go_round
                case rel => exact ⟨j + 1, by omega, by go_num, by rw [HS.out]; rfl⟩
                case measure => simp [intOf]; omega
              | false =>
                by_cases hyx : y = x
                · have e2 : (y.toList == x.toList) = true := by subst hyx; simp
                  go_wp2
                  go_round
                  case rel => exact ⟨j + 1, by omega, by go_num, by rw [HS.out, decide_eq_true hyx]; rfl⟩
                  case measure => simp [intOf]; omega
                · have e2 : (y.toList == x.toList) = false := neV hyx
                  go_wp2
                  go_round
                  case rel => exact ⟨j + 1, by omega, by go_num, by rw [HS.out, decide_eq_false hyx]; rfl⟩
                  case measure => simp [intOf]; omega
            · have HF : Hid (((nm.take j).any fun n => decide (n = x)) = nm.any fun n => decide (n = x)) := by show _ = _; rw [List.take_of_length_le (by omega)]
              rw [HF.out]
              have HAD : Hid (addN nm x = if (nm.any fun n => decide (n = x)) = true then nm else nm ++ [x]) := rfl
              generalize (nm.any fun n => decide (n = x)) = fd at HAD ⊢
              cases fd with
              | true =>
                have HZ : Hid (nmsL (L.take (k + 1)) = nm) := by show _ = _; rw [HNX.out, HAD.out]; rfl
                go_wp2
                go_roundw
                case rel => exact ⟨k + 1, by omega, by go_num, HK1, by rw [HZ.out]; exact hnm3, hb13⟩
                case measure => simp [intOf]; omega
              | false =>
                have HZ : Hid (nmsL (L.take (k + 1)) = nm ++ [x]) := by show _ = _; rw [HNX.out, HAD.out]; rfl
                rcases hnm3.out with ⟨h1, h2⟩ | ⟨h1, h2⟩
                · subst h1
                  cases h2
                  go_wp2_with (at_builtin; refine wpList_pushT0 _ rfl (.tmp 54) (.tmp 56) rfl w.heap.size x rfl rfl ?_; intro v5 w5 ho5 hb5)
                  have HO5 : Hid (OwnsT w5 w1.heap.size v5 [x]) := ho5.low hb13.out.size
                  have HB5 : Hid (Below w1.heap.size w1 w5) := past6 hb13.out hb5
                  clear ho5 hb5
                  go_roundw
                  case rel => exact ⟨k + 1, by omega, by go_num, HK1, by rw [HZ.out]; exact .inr ⟨by simp, HO5.out⟩, HB5⟩
                  case measure => simp [intOf]; omega
                · go_wp2_with (at_builtin; refine wpList_pushT _ rfl (.tmp 54) (.tmp 56) rfl w1.heap.size _ nm x rfl h2 rfl (by omega) hb13.out.size ?_; intro v5 w5 ho5 hg5)
                  have HO5 : Hid (OwnsT w5 w1.heap.size v5 (nm ++ [x])) := ho5
                  have HB5 : Hid (Below w1.heap.size w1 w5) := belowV hb13.out hg5 hb13.out.size (OwnsT.from h2)
                  clear ho5 hg5
                  go_roundw
                  case rel => exact ⟨k + 1, by omega, by go_num, HK1, by rw [HZ.out]; exact .inr ⟨by simp, HO5.out⟩, HB5⟩
                  case measure => simp [intOf]; omega
    · have HOKL : Hid (okN L = true) := okN_take hlt hok.out
      have HR : Hid (R = (selS l (srtN (nmsL L)), true)) := HY.out HOKL.out
      have hE : nmsL (L.take k) = nmsL L := by rw [List.take_of_length_le (by omega)]
      rw [hE] at hnm
      have HNO : ∃ B, OwnsT wr B u6 (nmsL L) := by
        rcases hnm.out with ⟨h1, h2⟩ | ⟨h1, h2⟩
        · rw [h1, h2]; exact ⟨_, OB1.out.kept (hb.out.mono (Nat.le_refl _))⟩
        · exact ⟨_, h2⟩
      obtain ⟨BB, hNO⟩ := HNO
      have hnl := nmsL_length L
      have hmem : Hid (∀ y ∈ srtN (nmsL L), y.size ≤ 400) := fun y hy => by
        obtain ⟨t, h1, rfl⟩ := mem_nmsL (mem_srtN hy)
        rw [lowV_size]
        exact HIS.out t h1
      have hsl := srtN_length (nmsL L)
      have hsr := specSrt u6 BB ((nmsL L).map fun x => x.data.toList) wr (by rw [map_back]; exact hNO) (by rw [List.length_map]; omega)
      have eS : (srtL ((nmsL L).map fun x => x.data.toList)).map txt = srtN (nmsL L) := rfl
      rw [eS] at hsr
      have HBW : Hid (Below w.heap.size w wr) := past6 B1.out hb.out
      generalize srtN (nmsL L) = S at hsr hmem hsl HR
      clear eS hnm hE hok HOKL OB1 B1 hb hNO HY HN hc7 hg7 hg7s HIS
      obtain ⟨w3, rfl⟩ : ∃ z, z = wr := ⟨wr, rfl⟩
      go_wp2_with fail
      refine hsr.mono ?_
      rintro e w4 ⟨v6, rfl, hO4, hb4⟩
      have HB4 : Hid (Below w.heap.size w w4) := past6 HBW.out hb4
      have HF4 : Hid (Fits w4 (.slice va l.length vc) l) := F0.out.kept HB4.out
      obtain ⟨a6, c6, rfl⟩ := hO4.form
      have HO4 : Hid (OwnsT w4 w3.heap.size (.slice a6 S.length c6) S) := hO4
      clear hO4 hb4 hsr HBW F0
      go_wp2_with fail
      go_loopw [12, 13] (fun u i wr => ∃ (k : Nat), k ≤ S.length ∧ i = .int .i64 k ∧ u = .string (selS l (S.take k)) ∧ Hid ((selS l (S.take k)).size ≤ k * 6300000) ∧ Hid (Below w4.heap.size w4 wr)) (fun _ i _ => S.length - (intOf i).toNat)
      case atStart => exact ⟨0, Nat.zero_le _, rfl, rfl, Nat.zero_le _, Below.refl _ _⟩
      case round =>
        obtain ⟨k, hk2, rfl, rfl, hsz, hb5⟩ := hrel
        by_cases hlt3 : k < S.length
        · have HSX : Hid (selS l (S.take (k + 1)) = selOne l (selS l (S.take k)) S[k]) := selS_next hlt3
          have hyz : S[k].size ≤ 400 := hmem.out _ (List.getElem_mem hlt3)
          obtain ⟨g6, cc, hv6⟩ := HO4.out.openV (fun e => by rw [e] at hlt3; simp at hlt3)
          cases hv6
          have c6' : wr.cell? ⟨g6, k, none⟩ = some (.string S[k]) := (hb5.out.cell (p := ⟨g6, k, none⟩) (World.ownsRow.lt HO4.out g6 rfl).2).trans (HO4.out.cellAt rfl (by simp [hlt3]))
          have hgt := specGetN (.slice va l.length vc) l S[k] wr (HF4.out.kept hb5.out).1 HF4.out.2.1 HF4.out.2.2.1 (by omega)
          have hgz := getF_max S[k] HF4.out.2.1 HF4.out.2.2.1
          have hssz : (selS l (S.take k)).size ≤ 2526300000 := by
            have := hsz.out
            have h1 : k * 6300000 ≤ 401 * 6300000 := Nat.mul_le_mul_right _ (by omega)
            omega
          have HS1 : Hid (∀ q : ByteArray, selOne l (selS l (S.take k)) S[k] = selS l (S.take k) ++ S[k] ++ ⟨#[61]⟩ ++ quoS (getF l S[k]).1 ++ ⟨#[59]⟩) := fun _ => rfl
          have hqz := quoS_most (getF l S[k]).1
          have HSZ : Hid ((selS l (S.take k)).size ≤ k * 6300000) := hsz.out
          unfold getE at hgt
          generalize S[k] = y at HSX hyz c6' hgt hgz HS1 hqz
          generalize selS l (S.take k) = s0 at HSX hssz HS1 HSZ ⊢
          generalize getF l y = gg at hgt hgz HS1 hqz
          obtain ⟨gt, gf⟩ := gg
          simp only at hgt hgz HS1 hqz
          have hqu := fun W => specQuoN gt W (by omega)
          generalize quoS gt = qq at hqu hqz HS1
          clear hsz
          go_wp2_with fail
          refine hgt.mono ?_
          rintro e w6 ⟨rfl, hb6⟩
          have hb56 : Hid (Below w4.heap.size w4 w6) := past6 hb5.out hb6
          have c66 : w6.cell? ⟨g6, k, none⟩ = some (.string y) := (hb6.cell (p := ⟨g6, k, none⟩) (ltV c6')).trans c6'
          clear hb6 hb5 hgt c6'
          go_upto_region 22 with fail
          have k6 := cell_regrown c66
          have cQ : ∀ d os, Calls Tryz.prog 65 #[.string gt] (grow (redrawn w6 d) os) fun e w'' => e = .returned (.string qq) ∧ ∃ p : Regrown, w'' = grow (redrawn w6 p.d) p.os := fun d os => Calls.regrown_of (hqu _)
          refine wp_region_quiet_below (by kernel_rfl) (by kernel_rfl) ?_
          repeat (go_big_quiet_step (first | (with_reducible exact cQ _ _)))
          refine wpQuiet_nil ?_
          intro _ hw'
          obtain ⟨⟨dq, osq⟩, hw''⟩ := hw'
          subst hw''
          have HB7 : Hid (Below w4.heap.size w4 (grow (redrawn w6 dq) osq)) := past6 hb56.out (below_regrown w6 dq osq)
          have HZ7 : Hid ((selS l (S.take (k + 1))).size ≤ (k + 1) * 6300000) := by
            show _ ≤ _
            rw [HSX.out, HS1.out ⟨#[]⟩]
            simp only [ByteArray.size_append]
            have e1 : (⟨#[61]⟩ : ByteArray).size = 1 := rfl
            have e2 : (⟨#[59]⟩ : ByteArray).size = 1 := rfl
            have := HSZ.out
            omega
          generalize grow (redrawn w6 dq) osq = w7 at HB7 ⊢
          clear k6 cQ hb56 c66
          go_wp2_with fail
          go_roundw
          case rel => exact ⟨k + 1, by omega, by go_num, by rw [HSX.out, HS1.out ⟨#[]⟩], HZ7, HB7⟩
          case measure => simp [intOf]; omega
        · have HE : Hid (selS l (S.take k) = selS l S) := by show _ = _; rw [List.take_of_length_le (by omega)]
          rw [HE.out]
          go_wp2
          go_ret2
          exact ⟨by rw [HR.out]; rfl, past6 HB4.out hb5.out⟩
end Go.Proofs.YtnachhmhjodbhaaGreatDoor
namespace Go.Proofs.YtnachhmhjodbhaaGreatDoor
open Go.RowKit Go.Sort
set_option linter.unusedVariables false
set_option linter.unusedSimpArgs false

theorem OwnsF.fitsV {w : World} {B : Nat} {v : Value} {l : List Fl} (h : OwnsF w B v l) (h1 : szL l ≤ 1048576) (h2 : l.length ≤ 1048576) : Fits w v l := ⟨h.fls, h1, h2, fun n c e => by
  rcases h.2 with ⟨e2, _⟩ | ⟨g, cap, cur, e2, _⟩
  · rw [e] at e2; injection e2
  · rw [e] at e2; cases e2⟩
def selE (p : ByteArray × Bool) : Value := .tuple #[.string p.1, .bool p.2]
theorem specSel (vary : ByteArray) (v : Value) (l : List Fl) (w : World) (h : Fits w v l) (hs : vary.size ≤ maxLen) :
    Calls Tryz.prog 12 #[.string vary, v] w fun e w' => e = .returned (selE (selA vary l)) ∧ Below w.heap.size w w' := by
  have HS : Hid (selA vary l = if fldsOk l = true then selV vary l else (⟨#[]⟩, false)) := rfl
  have j1 := fun W (hW : Fits W v l) => specOk v l W hW.1 hW.2.1
  have j2 := fun W (hW : Fits W v l) => specSelV vary v l W hW hs
  generalize selA vary l = R at HS ⊢
  generalize selV vary l = S at HS j2
  generalize fldsOk l = b at HS j1
  obtain ⟨st, sb⟩ := S
  simp only at j2
  obtain ⟨va, vc, rfl⟩ : ∃ a cap, v = .slice a l.length cap := by obtain ⟨a, cap, hv, _⟩ := h.1; exact ⟨a, cap, hv⟩
  have F0 : Hid (Fits w (.slice va l.length vc) l) := h
  clear h
  go_enter Tryz.func12, Tryz.ntmps12
  go_wp2_with fail
  refine (j1 _ F0.out).mono ?_
  rintro e w1 ⟨rfl, hb1⟩
  have B1 : Hid (Below w.heap.size w w1) := hb1
  have F1 : Hid (Fits w1 (.slice va l.length vc) l) := F0.out.kept hb1
  clear hb1 F0 j1
  cases b with
  | false =>
    have HR : Hid (R = (⟨#[]⟩, false)) := HS.out
    go_wp2
    go_ret2
    exact ⟨by rw [HR.out]; rfl, B1.out⟩
  | true =>
    have HR : Hid (R = (st, sb)) := HS.out
    go_wp2_with fail
    refine (j2 _ F1.out).mono ?_
    rintro e w2 ⟨rfl, hb2⟩
    have B2 : Hid (Below w.heap.size w w2) := past6 B1.out hb2
    clear hb2 B1 F1 j2
    go_wp2
    go_ret2
    exact ⟨by rw [HR.out]; rfl, B2.out⟩
end Go.Proofs.YtnachhmhjodbhaaGreatDoor
namespace Go.Proofs.YtnachhmhjodbhaaGreatDoor
open Go.RowKit

theorem visN_ascii {r : Int} (h : visN r = true) : r < 128 := by
  have := of_decide_eq_true h
  omega

theorem iterPos_is {w : World} {k : Nat} {s : ByteArray} {p : Nat} (h : w.heap[k]? = some (.stringIter s p)) : w.iterPos k = p := by simp [World.iterPos, h]

/-- The iterator's block stands where a row is appended to. -/
theorem iter_grown {w w' : World} {B k pos : Nat} {v : Value} {l : List UInt8} {s : ByteArray} (hit : w.heap[k]? = some (.stringIter s pos)) (hown : OwnsB w B v l) (hg : w.grownBy w' v.ownBlock) : w'.heap[k]? = some (.stringIter s pos) :=
  (hg.block k (Array.getElem?_eq_some_iff.1 hit).1 (hown.noIter hit)).trans hit

set_option maxHeartbeats 800000 in
theorem implQuoted (s : ByteArray) (w : World) (hs : s.size ≤ maxLen) :
    Calls Tryz.prog 34 #[.string s] w fun e w' => e = .returned (.string (quoA s)) ∧ Below w.heap.size w w' := by
  by_cases hv : visB s = true
  · have HA : Hid (quoS s = quoA s) := quoA_yes hv
    have hz := vis_size hv
    go_enter Tryz.func34, Tryz.ntmps34
    go_wp2_with (go_at_call 56; refine (implVis _ _ hs).mono ?_; rintro e w1 ⟨rfl, hb1⟩)
    go_loopw [3] (fun v wr => ∃ pos : Nat, pos ≤ s.size ∧ OwnsB wr w1.heap.size v (quoTo s pos) ∧ wr.heap[w1.heap.size + 1]? = some (.stringIter s pos) ∧ Below w1.heap.size w1 wr) (fun _ wr => s.size - wr.iterPos (w1.heap.size + 1))
    case atStart =>
      refine ⟨0, Nat.zero_le _, (OwnsB.one w1 34).alloc _, ?_, ((Below.refl _ w1).alloc (Nat.le_refl _) _).alloc (by simp) _⟩
      have := World.iter_heap (w1.alloc (.cells #[.int .u8 34] 5)) s 0
      simpa using this
    case round =>
      obtain ⟨pos, hpos, hown, hit, hb⟩ := hrel
      have hl := quoTo_length pos hz
      have hM : Hid (wr.iterPos (w1.heap.size + 1) = pos) := iterPos_is hit
      by_cases hp : pos < s.size
      · have hvis := vis_at hv hp
        have hasc : s[pos].toNat < 128 := by have := visN_ascii hvis; omega
        clear hvis
        have hnx : ∀ ty, (Instr.next (.pointer (some ⟨w1.heap.size + 1, 0, none⟩)) true ty).run Tryz.prog wr = _ := fun ty => Lib.run_next_ascii_at wr (w1.heap.size + 1) s pos ty hit hp hasc
        have hit2 := Lib.iterAt_heap wr (w1.heap.size + 1) s pos (pos + 1) hit
        have hown2 := hown.iterAt hit (pos + 1)
        have hb2 := Lib.below_iterAt hb (Nat.le_succ w1.heap.size) s (pos + 1)
        clear hown hb hit
        obtain ⟨W, hWd⟩ : ∃ W, wr.iterAt (w1.heap.size + 1) s (pos + 1) = W := ⟨_, rfl⟩
        rw [hWd] at hnx hit2 hown2 hb2
        clear hWd
        have HI : Hid (W.heap[w1.heap.size + 1]? = some (.stringIter s (pos + 1))) := hit2
        clear hit2
        have hbs := hb2.size
        by_cases h34 : (s[pos].toNat : Int) = 34
        · have HE : Hid (quoTo s pos ++ [92] ++ [s[pos]] = quoTo s (pos + 1)) := quoTo_two hp (by omega)
          have hq := beq_yes h34
          clear h34
          go_wp2_with (first | (at_builtin; refine wpList_push _ rfl (.tmp 22) (.tmp 23) rfl w1.heap.size _ _ _ 92 rfl rfl hown2 rfl (by omega) hbs ?_; intro v3 w3 ho3 hg3; have hb3 := hb2.grown hg3 hbs (OwnsB.from hown2); have hbs3 := hb3.size) | (at_builtin; refine wpList_push _ rfl (.tmp 25) (.tmp 29) rfl w1.heap.size _ _ _ s[pos] rfl rfl ho3 rfl (by simp; omega) hbs3 ?_; intro v4 w4 ho4 hg4))
          go_roundw
          case rel => exact ⟨pos + 1, by omega, by rw [← HE.out]; exact ho4, iter_grown (iter_grown HI.out hown2 hg3) ho3 hg4, hb3.grown hg4 hbs3 (OwnsB.from ho3)⟩
          case measure => rw [iterPos_is (iter_grown (iter_grown HI.out hown2 hg3) ho3 hg4), hM.out]; omega
        · have hq := beq_no h34
          by_cases h92 : (s[pos].toNat : Int) = 92
          · have HE : Hid (quoTo s pos ++ [92] ++ [s[pos]] = quoTo s (pos + 1)) := quoTo_two hp (by omega)
            have hq2 := beq_yes h92
            clear h34 h92
            go_wp2_with (first | (at_builtin; refine wpList_push _ rfl (.tmp 22) (.tmp 23) rfl w1.heap.size _ _ _ 92 rfl rfl hown2 rfl (by omega) hbs ?_; intro v3 w3 ho3 hg3; have hb3 := hb2.grown hg3 hbs (OwnsB.from hown2); have hbs3 := hb3.size) | (at_builtin; refine wpList_push _ rfl (.tmp 25) (.tmp 29) rfl w1.heap.size _ _ _ s[pos] rfl rfl ho3 rfl (by simp; omega) hbs3 ?_; intro v4 w4 ho4 hg4))
            go_roundw
            case rel => exact ⟨pos + 1, by omega, by rw [← HE.out]; exact ho4, iter_grown (iter_grown HI.out hown2 hg3) ho3 hg4, hb3.grown hg4 hbs3 (OwnsB.from ho3)⟩
            case measure => rw [iterPos_is (iter_grown (iter_grown HI.out hown2 hg3) ho3 hg4), hM.out]; omega
          · have HE : Hid (quoTo s pos ++ [s[pos]] = quoTo s (pos + 1)) := quoTo_plain hp (by omega)
            have hq2 := beq_no h92
            clear h34 h92
            go_wp2_with (at_builtin; refine wpList_push _ rfl (.tmp 25) (.tmp 29) rfl w1.heap.size _ _ _ s[pos] rfl rfl hown2 rfl (by omega) hbs ?_; intro v4 w4 ho4 hg4)
            go_roundw
            case rel => exact ⟨pos + 1, by omega, by rw [← HE.out]; exact ho4, iter_grown HI.out hown2 hg4, hb2.grown hg4 hbs (OwnsB.from hown2)⟩
            case measure => rw [iterPos_is (iter_grown HI.out hown2 hg4), hM.out]; omega
      · have hnx : ∀ ty, (Instr.next (.pointer (some ⟨w1.heap.size + 1, 0, none⟩)) true ty).run Tryz.prog wr = _ := fun ty => Lib.run_next_end_at wr (w1.heap.size + 1) s pos ty hit hp
        have HE : Hid ((⟨(quoTo s pos ++ [34]).toArray⟩ : ByteArray) = quoS s) := quoTo_end hp
        have hbs := hb.size
        clear hit
        go_wp2_with (at_builtin; refine wpList_push _ rfl (.tmp 31) (.tmp 32) rfl w1.heap.size _ _ _ 34 rfl rfl hown rfl (by omega) hbs ?_; intro v2 w2 ho2 hg2; have hback := ho2.text)
        go_ret
        exact ⟨ret_str (HE.out.trans HA.out), hb1.trans ((hb.grown hg2 hbs (OwnsB.from hown)).mono hb1.size)⟩
  · have hv' : visB s = false := by simpa using hv
    clear hv
    have HA : Hid ((⟨#[]⟩ : ByteArray) = quoA s) := quoA_no hv'
    go_enter Tryz.func34, Tryz.ntmps34
    go_wp2_with (go_at_call 56; refine (implVis _ _ hs).mono ?_; rintro e w1 ⟨rfl, hb1⟩)
    go_ret
    exact ⟨ret_str HA.out, hb1⟩
end Go.Proofs.YtnachhmhjodbhaaGreatDoor
namespace Go.Proofs.YtnachhmhjodbhaaGreatDoor
open Go.RowKit Go.Sort

theorem data_app (a b : ByteArray) : (a ++ b).data.toList = a.data.toList ++ b.data.toList := by rw [ByteArray.data_append, Array.toList_append]
theorem text_of (x : ByteArray) : (⟨x.data.toList.toArray⟩ : ByteArray) = x := by cases x; simp
theorem len_of (x : ByteArray) : x.data.toList.length = x.size := by simp

set_option maxHeartbeats 1000000 in
theorem implGet (v : Value) (l : List Fl) (n : ByteArray) (w : World) (h : Fls w v l) (hz : szL l ≤ 1048576) (hn : n.size ≤ 1048576) :
    Calls Tryz.prog 33 #[v, .string n] w fun e w' => e = .returned (getE (getA l n)) ∧ Below w.heap.size w w' := by
  have hh := h
  obtain ⟨a, cap, rfl, h1, h2, h3⟩ := hh
  unfold maxLen at h2
  have hnm : n.size ≤ maxLen := by unfold maxLen; omega
  cases hok : fldsOk l with
  | false =>
    have HN : Hid ((⟨#[]⟩, false) = getA l n) := getA_no n hok
    go_enter Tryz.func33, Tryz.ntmps33
    go_wp2_with (go_at_call 30; refine (implOk _ l _ h hz).mono ?_; rw [hok]; rintro e w1 ⟨rfl, hb1⟩)
    go_ret2
    exact ⟨ret_get HN.out, hb1⟩
  | true =>
    obtain ⟨hl, hfs⟩ := fldsOk_parts hok
    have HG : Hid (getF l n = getA l n) := getA_yes n hok
    go_enter Tryz.func33, Tryz.ntmps33
    go_wp2_with (first | (go_at_call 30; refine (implOk _ l _ h hz).mono ?_; rw [hok]; rintro e w1 ⟨rfl, hb1⟩) | (go_at_call 52; refine (implLow _ _ hnm).mono ?_; rintro e w2 ⟨rfl, hb2⟩))
    have hb02 := hb1.trans (hb2.mono hb1.size)
    clear hb1 hb2
    go_loopw [7, 8, 18] (fun s b i wr => ∃ (k : Nat) (x : ByteArray) (fd : Bool), k ≤ l.length ∧ i = .int .i64 k ∧ b = .bool fd ∧ x.size ≤ 402 * k ∧ OwnsB wr w.heap.size s x.data.toList ∧ Hid (getF (l.take k) n = (x, fd)) ∧ Below w.heap.size w wr) (fun _ _ i _ => l.length - (intOf i).toNat)
    case atStart => exact ⟨0, ⟨#[]⟩, false, Nat.zero_le _, rfl, rfl, Nat.le_refl _, OwnsB.nil _ _, rfl, hb02⟩
    case round =>
      clear hb02
      obtain ⟨k, x, fd, hk, rfl, rfl, hxs, hown, hget, hb⟩ := hrel
      have hxl := len_of x
      by_cases hlt : k < l.length
      · obtain ⟨g, o, rfl, hg, hc⟩ := h3 (by omega)
        have c1 := (hb.cell (p := ⟨g, o + k * 2, none⟩) hg).trans (hc k hlt).1
        have c2 := (hb.cell (p := ⟨g, o + k * 2 + 1, none⟩) hg).trans (hc k hlt).2
        have hsz := fldOk_size (hfs l[k] (List.getElem_mem hlt))
        have hnx := getF_next n hlt
        rw [hget.out] at hnx
        generalize l[k] = f at c1 c2 hsz hnx
        have z1 : f.1.size ≤ maxLen := by unfold maxLen; omega
        have d1 := box1 wr f 41
        have bl := box_lt wr (.cells #[.string f.1, .string f.2] 41)
        have hba := hb.alloc hb.size (.cells #[.string f.1, .string f.2] 41)
        have hoa := hown.alloc (.cells #[.string f.1, .string f.2] 41)
        have hun := OwnsB.under hown
        clear hc h3 hfs h
        by_cases he : lowS f.1 = lowS n
        · have hq := same_yes he
          cases fd with
          | false =>
            rw [gStep_first he] at hnx
            have HN : Hid (getF (l.take (k + 1)) n = (x ++ f.2, true)) := hnx
            clear hnx he
            go_wp2_with (first
              | (go_at_call 52; refine (implLow _ _ z1).mono ?_; rintro e w1 ⟨rfl, hb1⟩; have e1 := (hb1.cell (p := ⟨wr.heap.size, 1, none⟩) bl).trans d1; have ho1 := hoa.kept hb1; have hb01 := hba.trans (hb1.mono hba.size))
              | (at_builtin; refine wpList_pushStr _ rfl _ _ rfl w.heap.size _ _ _ rfl ho1 rfl (by omega) hb01.size ?_; intro v2 w2 ho2 hg2))
            have hb02 := hb01.grown hg2 hb01.size (OwnsB.from ho1)
            rw [← data_app] at ho2
            clear hown hoa ho1 hb hb1 hba hb01 hg2 c1 c2 d1 e1
            go_roundw
            case rel => exact ⟨k + 1, _, true, by omega, by go_num, rfl, by rw [ByteArray.size_append]; omega, ho2, HN, hb02⟩
            case measure => simp [intOf]; omega
          | true =>
            rw [gStep_more he] at hnx
            have HN : Hid (getF (l.take (k + 1)) n = (x ++ ⟨#[44, 32]⟩ ++ f.2, true)) := hnx
            have zz : (x ++ (⟨#[44, 32]⟩ : ByteArray)).size = x.size + 2 := by rw [ByteArray.size_append]; rfl
            clear hnx he
            go_wp2_with (first
              | (go_at_call 52; refine (implLow _ _ z1).mono ?_; rintro e w1 ⟨rfl, hb1⟩; have e1 := (hb1.cell (p := ⟨wr.heap.size, 1, none⟩) bl).trans d1; have ho1 := hoa.kept hb1; have hb01 := hba.trans (hb1.mono hba.size))
              | (at_builtin; refine wpList_pushStr _ rfl _ _ rfl w.heap.size _ _ _ rfl ho1 rfl (by show _ + 2 ≤ _; omega) hb01.size ?_; intro v2 w2 ho2 hg2; have e2 := grown_cell hg2 e1 (Nat.lt_of_lt_of_le bl hb1.size) (fun j hj => Nat.ne_of_lt (hun j hj)); have hb02 := hb01.grown hg2 hb01.size (OwnsB.from ho1); rw [← data_app] at ho2)
              | (at_builtin; refine wpList_pushStr _ rfl _ _ rfl w.heap.size _ _ _ rfl ho2 rfl (by rw [len_of, zz]; omega) hb02.size ?_; intro v3 w3 ho3 hg3))
            have hb03 := hb02.grown hg3 hb02.size (OwnsB.from ho2)
            rw [← data_app] at ho3
            clear hown hoa ho1 ho2 hb hb1 hba hb01 hb02 hg2 hg3 c1 c2 d1 e1 e2
            go_roundw
            case rel => exact ⟨k + 1, _, true, by omega, by go_num, rfl, by rw [ByteArray.size_append, zz]; omega, ho3, HN, hb03⟩
            case measure => simp [intOf]; omega
        · have hq := same_no he
          rw [gStep_no he] at hnx
          have HN : Hid (getF (l.take (k + 1)) n = (x, fd)) := hnx
          clear hnx he
          go_wp2_with (go_at_call 52; refine (implLow _ _ z1).mono ?_; rintro e w1 ⟨rfl, hb1⟩; have ho1 := hoa.kept hb1; have hb01 := hba.trans (hb1.mono hba.size))
          clear hown hoa hb hb1 hba c1 c2 d1
          go_roundw
          case rel => exact ⟨k + 1, _, fd, by omega, by go_num, rfl, by omega, ho1, HN, hb01⟩
          case measure => simp [intOf]; omega
      · have HN : Hid ((x, fd) = getA l n) := by rw [← HG.out, ← getF_end n hlt]; exact hget.out.symm
        have ht := hown.text
        rw [text_of] at ht
        go_wp2
        go_ret2
        exact ⟨ret_get HN.out, hb⟩
end Go.Proofs.YtnachhmhjodbhaaGreatDoor

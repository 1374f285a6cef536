/-
  The walk of the law FnOwners, given what the program's Ranked, Owner, Moved, Weight and Hash answer.
-/
import Derived.Test.YtdbeoloonoodkaaDoorG36
import Derived.Test.YtdbeoloonoodkaaDoorG18
import Derived.Deep.DeepCutAuto
namespace Go.Proofs.YtdbeoloonoodkaaDoor
open Go.RowKit Go.Sort Ow Rw
set_option linter.unusedVariables false
set_option linter.unusedSimpArgs false

/-- What lies there all along. -/
structure On (w W : World) (vl : Value) (l : List Int) (vr : Value) (R : List Int) (vs : Value) (s : List Int) (vk : Value) (keys : List ByteArray) (vm : Value) (M : List Int) : Prop where
  low : Below w.heap.size w W
  l : Sls intE W vl l
  r : Sls intE W vr R
  s : Sls intE W vs s
  k : Sls txtE W vk keys
  m : Sls intE W vm M
theorem On.kept {w W W' : World} {vl : Value} {l : List Int} {vr : Value} {R : List Int} {vs : Value} {s : List Int} {vk : Value} {keys : List ByteArray} {vm : Value} {M : List Int} (h : On w W vl l vr R vs s vk keys vm M) (hb : Below W.heap.size W W') : On w W' vl l vr R vs s vk keys vm M :=
  ⟨pastO h.low hb, h.l.kept hb, h.r.kept hb, h.s.kept hb, h.k.kept hb, h.m.kept hb⟩
theorem Code8.upO {w : World} {b b' : Nat} {sa : Option Addr} {sl : Nat} (h : Code8 w b sa sl) (hb : b ≤ b') : Code8 w b' sa sl := by
  intro j hj
  obtain ⟨g, o, z, h1, h2, h3⟩ := h j hj
  exact ⟨g, o, z, h1, by omega, h3⟩
set_option maxRecDepth 100000 in
set_option maxHeartbeats 8000000 in
theorem fnOwn (hiR : ∀ (v : Value) (l : List Int) (key : ByteArray) (w : World), Sls intE w v l → l.length ≤ 1048576 → key.size ≤ 1048576 → Calls Tryd.prog 10 #[v, .string key] w fun e w' => ∃ u, e = .returned u ∧ HasN w' w.heap.size u (rnkV l key) ∧ Below w.heap.size w w')
    (hiO : ∀ (v : Value) (l : List Int) (key : ByteArray) (w : World), Sls intE w v l → l.length ≤ 1048576 → key.size ≤ 1048576 → Calls Tryd.prog 11 #[v, .string key] w fun e w' => e = .returned (.int .i64 (ownV l key)) ∧ Below w.heap.size w w')
    (hiM : ∀ (v : Value) (l : List Int) (z : Int) (vk : Value) (keys : List ByteArray) (w : World), Sls intE w v l → l.length ≤ 1048576 → Sls txtE w vk keys → keys.length ≤ 1048576 → (∀ x ∈ keys, x.size ≤ 1048576) → Calls Tryd.prog 13 #[v, .int .i64 z, vk] w fun e w' => ∃ u, e = .returned u ∧ HasN w' w.heap.size u (movV l z keys) ∧ Below w.heap.size w w')
    (hiW : ∀ (n : Int) (s : ByteArray) (w : World), s.size ≤ 1048576 → Calls Tryd.prog 20 #[.int .i64 n, .string s] w fun e w' => e = .returned (.int .i64 (wgV s n)) ∧ Below w.heap.size w w')
    (hiH : ∀ (s : ByteArray) (w : World), s.size ≤ 1048576 → Calls Tryd.prog 22 #[.string s] w fun e w' => e = .returned (.int .i64 (hshL s.data.toList : Nat)) ∧ Below w.heap.size w w')
    (sa : Option Addr) (sl sc : Nat) (zs : List Int) (w : World) (hw : IsRow w sa sl sc zs) :
    Calls Tryd.prog 3 #[.slice sa sl sc] w fun e w' => e = .returned (.bool true) ∧ Below w.heap.size w w' := by
  by_cases hbig : 4096 < sl
  · have hlen := hw.len
    clear hw hiR hiO hiM hiW hiH
    go_enter Tryd.func3, Tryd.ntmps3
    go_wp2_with (go_at_call 8; refine (isBig sa sl sc _ hbig hlen).mono ?_; rintro e w1 ⟨rfl, rfl⟩)
    go_ret
    exact ⟨rfl, Below.refl _ _⟩
  · have hl : sl ≤ 4096 := by omega
    have h8 : Hid (Code8 w w.heap.size sa sl) := hw.code.code
    clear hw hbig
    go_enter Tryd.func3, Tryd.ntmps3
    go_wp2_with fail
    refine (notBig sa sl sc _ hl).mono ?_
    rintro e w0 ⟨rfl, rfl⟩
    go_wp2_with fail
    refine (drawRk sa sl sc _ h8.out hl).mono ?_
    rintro e w1 ⟨⟨ul, l, k, rfl, ho1, hl10, hk26⟩, hb1⟩
    obtain ⟨al, cl, rfl, _⟩ := ho1.form
    have B1 : Hid (Below w.heap.size w w1) := hb1
    have L1 : Hid (Sls intE w1 (.slice al l.length cl) l) := ho1.sls
    have HR := fun W hW => hiR (.slice al l.length cl) l k W hW (by omega) (by omega)
    have HO := fun W hW => hiO (.slice al l.length cl) l k W hW (by omega) (by omega)
    have hOr := fun v m W hW (hm : m.length ≤ 10) => hiO v m k W hW (by omega) (by omega)
    have SR := fun W hW => specRnk (.slice al l.length cl) l k W hW (by omega)
    have SO := fun W hW => specOwn (.slice al l.length cl) l k W hW (by omega)
    have SW := fun n W => specWgt n k W (by omega)
    have hR9 := rnkV_len l k
    clear hb1 ho1 hiR
    go_wp2_with fail
    refine (HR _ L1.out).mono ?_
    rintro e w2 ⟨ur, rfl, ho2, hb2⟩
    obtain ⟨ar, cr, rfl, _⟩ := ho2.form
    have B2 : Hid (Below w.heap.size w w2) := (show Hid _ from pastO B1.out hb2)
    have L2 : Hid (Sls intE w2 (.slice al l.length cl) l) := L1.out.kept hb2
    obtain ⟨R, hRe⟩ : ∃ R, R = rnkV l k := ⟨_, rfl⟩
    rw [← hRe] at ho2 hR9 SR ⊢
    have R2 : Hid (Sls intE w2 (.slice ar R.length cr) R) := ho2.sls
    have ER : Hid (R = rnkV l k) := hRe
    clear hb2 ho2 B1 L1 HR hRe
    go_wp2_with fail
    refine (HO _ L2.out).mono ?_
    rintro e w3 ⟨rfl, hb3⟩
    obtain ⟨o, hoe⟩ : ∃ o, o = ownV l k := ⟨_, rfl⟩
    have EO : Hid (o = ownV l k) := hoe
    rw [← hoe] at SO ⊢
    have B3 : Hid (Below w.heap.size w w3) := (show Hid _ from pastO B2.out hb3)
    have L3 : Hid (Sls intE w3 (.slice al l.length cl) l) := L2.out.kept hb3
    have R3 : Hid (Sls intE w3 (.slice ar R.length cr) R) := R2.out.kept hb3
    clear hb3 B2 L2 R2 HO hoe
    go_wp2_with fail
    refine (drawMv sa sl sc _ ((h8.out.kept B3.out (Nat.le_refl _)).upO B3.out.size) hl).mono ?_
    rintro e w4 ⟨⟨us, s, g, uk, keys, rfl, ho4, hs10, hx4, hk101, hks⟩, hb4⟩
    obtain ⟨as', cs, rfl, _⟩ := ho4.form
    obtain ⟨ak, ck, rfl, _⟩ := hx4.form
    have B4 : Hid (Below w.heap.size w w4) := (show Hid _ from pastO B3.out hb4)
    have L4 : Hid (Sls intE w4 (.slice al l.length cl) l) := L3.out.kept hb4
    have R4 : Hid (Sls intE w4 (.slice ar R.length cr) R) := R3.out.kept hb4
    have S4 : Hid (Sls intE w4 (.slice as' s.length cs) s) := ho4.sls
    have K4 : Hid (Sls txtE w4 (.slice ak keys.length ck) keys) := hx4.sls
    have HKS : Hid (∀ x ∈ keys, x.size ≤ 26) := hks
    have HM := fun W hS hK => hiM (.slice as' s.length cs) s g (.slice ak keys.length ck) keys W hS (by omega) hK (by omega) (fun x hx => Nat.le_trans (hks x hx) (by omega))
    have SM := fun W hS hK => specMov (.slice as' s.length cs) s g (.slice ak keys.length ck) keys W hS (by omega) hK (by omega) (fun x hx => Nat.le_trans (hks x hx) (by omega))
    have hM100 := movV_len s g keys
    clear hb4 ho4 hx4 B3 L3 R3 hks hiM
    go_wp2_with fail
    refine (HM _ S4.out K4.out).mono ?_
    rintro e w5 ⟨um, rfl, ho5, hb5⟩
    obtain ⟨am, cm, rfl, _⟩ := ho5.form
    obtain ⟨M, hMe⟩ : ∃ M, M = movV s g keys := ⟨_, rfl⟩
    rw [← hMe] at ho5 hM100 SM ⊢
    have EM : Hid (M = movV s g keys) := hMe
    have N5 : Hid (On w w5 (.slice al l.length cl) l (.slice ar R.length cr) R (.slice as' s.length cs) s (.slice ak keys.length ck) keys (.slice am M.length cm) M) := ⟨pastO B4.out hb5, L4.out.kept hb5, R4.out.kept hb5, S4.out.kept hb5, K4.out.kept hb5, ho5.sls⟩
    clear hb5 ho5 B4 L4 R4 S4 K4 HM hMe
    go_wp2_with fail
    refine (drawWg sa sl sc _ ((h8.out.kept N5.out.low (Nat.le_refl _)).upO N5.out.low.size) hl).mono ?_
    rintro e w6 ⟨⟨n, t, rfl, ht26⟩, hb6⟩
    have N6 : Hid (On w w6 (.slice al l.length cl) l (.slice ar R.length cr) R (.slice as' s.length cs) s (.slice ak keys.length ck) keys (.slice am M.length cm) M) := N5.out.kept hb6
    clear hb6 N5
    go_wp2_with fail
    refine (drawHs sa sl sc _ ((h8.out.kept N6.out.low (Nat.le_refl _)).upO N6.out.low.size) hl).mono ?_
    rintro e w7 ⟨⟨h, rfl, hh9⟩, hb7⟩
    have N7 : Hid (On w w7 (.slice al l.length cl) l (.slice ar R.length cr) R (.slice as' s.length cs) s (.slice ak keys.length ck) keys (.slice am M.length cm) M) := N6.out.kept hb7
    have hLk := fun v l W hv hu (hl : l.length ≤ 1048576) => (likeNum (.slice ar R.length cr) v l W hv hu hl).mono fun e w' (h : _ ∧ Grew W w') => (⟨h.1, h.2.low⟩ : e = .returned (.bool true) ∧ Below W.heap.size W w')
    have hLm := fun v l W hv hu (hl : l.length ≤ 1048576) => (likeNum (.slice am M.length cm) v l W hv hu hl).mono fun e w' (h : _ ∧ Grew W w') => (⟨h.1, h.2.low⟩ : e = .returned (.bool true) ∧ Below W.heap.size W w')
    have IW := fun W => hiW n t W (by omega)
    have SW2 := fun W => specWgt n t W (by omega)
    have IH := fun W => hiH h W (by omega)
    have SH := fun W => specHsh h W (by unfold maxLen; omega)
    generalize wgV t n = T1 at IW SW2
    generalize hshL h.data.toList = T2 at IH SH
    have d0 : (o != o) = false := by simp
    have d1 : (T1 != T1) = false := by simp
    have d2 : ((T2 : Int) != (T2 : Int)) = false := by simp
    clear hb7 N6 h8 hiW hiH
    go_wp2_with fail
    refine (SR _ N7.out.l).mono ?_
    rintro e w8 ⟨u8, rfl, ho8, hb8⟩
    have N8 : Hid (On w w8 (.slice al l.length cl) l (.slice ar R.length cr) R (.slice as' s.length cs) s (.slice ak keys.length ck) keys (.slice am M.length cm) M) := N7.out.kept hb8
    have Q8 : Hid (Sls intE w8 u8 R) := ho8.sls
    clear hb8 ho8 N7 SR
    go_wp2_with fail
    refine (hLk _ R _ N8.out.r Q8.out (by omega)).mono ?_
    rintro e w9 ⟨rfl, hb9⟩
    have N9 : Hid (On w w9 (.slice al l.length cl) l (.slice ar R.length cr) R (.slice as' s.length cs) s (.slice ak keys.length ck) keys (.slice am M.length cm) M) := N8.out.kept hb9
    clear hb9 N8 Q8 hLk
    go_wp2_with fail
    refine (SO _ N9.out.l).mono ?_
    rintro e w10 ⟨rfl, hb10⟩
    have N10 : Hid (On w w10 (.slice al l.length cl) l (.slice ar R.length cr) R (.slice as' s.length cs) s (.slice ak keys.length ck) keys (.slice am M.length cm) M) := N9.out.kept hb10
    clear hb10 N9 SO
    go_wp2_with fail
    refine (SM _ N10.out.s N10.out.k).mono ?_
    rintro e w11 ⟨u11, rfl, ho11, hb11⟩
    have N11 : Hid (On w w11 (.slice al l.length cl) l (.slice ar R.length cr) R (.slice as' s.length cs) s (.slice ak keys.length ck) keys (.slice am M.length cm) M) := N10.out.kept hb11
    have Q11 : Hid (Sls intE w11 u11 M) := ho11.sls
    clear hb11 ho11 N10 SM
    go_wp2_with fail
    refine (hLm _ M _ N11.out.m Q11.out (by omega)).mono ?_
    rintro e w12 ⟨rfl, hb12⟩
    have N12 : Hid (On w w12 (.slice al l.length cl) l (.slice ar R.length cr) R (.slice as' s.length cs) s (.slice ak keys.length ck) keys (.slice am M.length cm) M) := N11.out.kept hb12
    clear hb12 N11 Q11 hLm
    go_wp2_with fail
    refine (IW _).mono ?_
    rintro e w13 ⟨rfl, hb13⟩
    have N13 : Hid (On w w13 (.slice al l.length cl) l (.slice ar R.length cr) R (.slice as' s.length cs) s (.slice ak keys.length ck) keys (.slice am M.length cm) M) := N12.out.kept hb13
    clear hb13 N12 IW
    go_wp2_with fail
    refine (SW2 _).mono ?_
    rintro e w14 ⟨rfl, hb14⟩
    have N14 : Hid (On w w14 (.slice al l.length cl) l (.slice ar R.length cr) R (.slice as' s.length cs) s (.slice ak keys.length ck) keys (.slice am M.length cm) M) := N13.out.kept hb14
    clear hb14 N13 SW2
    go_wp2_with fail
    refine (IH _).mono ?_
    rintro e w15 ⟨rfl, hb15⟩
    have N15 : Hid (On w w15 (.slice al l.length cl) l (.slice ar R.length cr) R (.slice as' s.length cs) s (.slice ak keys.length ck) keys (.slice am M.length cm) M) := N14.out.kept hb15
    clear hb15 N14 IH
    go_wp2_with fail
    refine (SH _).mono ?_
    rintro e w16 ⟨rfl, rfl⟩
    clear SH
    go_wp2_with fail
    have hSO := fun key W hW (hk : key.size ≤ 26) => specOwn (.slice as' s.length cs) s key W hW (by omega)
    go_loopw [14] (fun i wr => ∃ a : Nat, a ≤ M.length ∧ i = .int .i64 a ∧ Hid (On w wr (.slice al l.length cl) l (.slice ar R.length cr) R (.slice as' s.length cs) s (.slice ak keys.length ck) keys (.slice am M.length cm) M)) (fun i _ => M.length - (intOf i).toNat)
    case atStart => exact ⟨0, Nat.zero_le _, rfl, N15⟩
    case round =>
      clear N15
      obtain ⟨a, ha, rfl, NN⟩ := hrel
      by_cases hlt : a < M.length
      · have hli : (a : Int) < (M.length : Int) := by omega
        obtain ⟨j, hMj, hj, hown⟩ : ∃ j : Nat, M[a] = (j : Int) ∧ ∃ hj : j < keys.length, ownV s keys[j] = g := by
          have e := EM.out
          subst e
          exact mov_in hlt
        obtain ⟨_, _, hem, _, _, hm3⟩ := NN.out.m.one
        injection hem with em1 _ em2
        obtain ⟨gm, om, eam, hgm, hcm⟩ := hm3 (by omega)
        rw [← em1] at eam
        clear hm3 em1 em2
        obtain ⟨_, _, hek, _, _, hk3⟩ := NN.out.k.txt
        injection hek with ek1 _ ek2
        obtain ⟨gk, ok, eak, hgk, hck⟩ := hk3 (by omega)
        rw [← ek1] at eak
        clear hk3 ek1 ek2
        have c1 := hcm a hlt
        rw [hMj] at c1
        have c2 := hck j hj
        have hsz := HKS.out keys[j] (List.getElem_mem hj)
        have hC := hSO keys[j] wr NN.out.s hsz
        rw [hown] at hC
        have hji : (j : Int) < (keys.length : Int) := by omega
        have dg : (g != g) = false := by simp
        generalize keys[j] = kj at c2 hC hsz
        clear hMj hown hcm hck
        subst eam eak
        go_wp2_with fail
        refine hC.mono ?_
        rintro e w17 ⟨rfl, hb17⟩
        have N17 : Hid (On w w17 (.slice al l.length cl) l (.slice ar R.length cr) R (.slice as' s.length cs) s (.slice (some ⟨gk, ok, none⟩) keys.length ck) keys (.slice (some ⟨gm, om, none⟩) M.length cm) M) := NN.out.kept hb17
        clear hb17 NN hC c1 c2
        go_wp2_with fail
        go_roundw
        case rel => exact ⟨a + 1, by omega, by go_num, N17⟩
        case measure => simp [intOf]; omega
      · obtain rfl : a = M.length := by omega
        go_wp2_with fail
        obtain ⟨w17, rfl⟩ : ∃ z, z = wr := ⟨_, rfl⟩
        go_loopw [15, 16] (fun c i wr => ∃ b : Nat, b ≤ keys.length ∧ i = .int .i64 b ∧ c = .int .i64 (cntG s g keys b : Nat) ∧ Hid (On w wr (.slice al l.length cl) l (.slice ar R.length cr) R (.slice as' s.length cs) s (.slice ak keys.length ck) keys (.slice am M.length cm) M)) (fun _ i _ => keys.length - (intOf i).toNat)
        case atStart => exact ⟨0, Nat.zero_le _, rfl, rfl, NN⟩
        case round =>
          clear NN
          obtain ⟨b, hb, rfl, rfl, NN⟩ := hrel
          obtain ⟨wi, rfl⟩ : ∃ z, z = wr := ⟨_, rfl⟩
          obtain ⟨B, HBt⟩ : ∃ B : Bool, Hid (B = true ↔ b < keys.length ∧ 0 < M.length) := ⟨decide (b < keys.length ∧ 0 < M.length), (show Hid _ from decide_eq_true_iff)⟩
          go_upto_region 19 with fail
          go_cut [113] from 105 to 113 (fun s wx => s = .bool B ∧ wi = wx)
          case first =>
            by_cases hlt2 : b < keys.length
            · have hlti : (b : Int) < (keys.length : Int) := by omega
              have hB : B = decide (0 < M.length) := by
                cases B with
                | true => have := (HBt.out.1 rfl).2; exact (decide_eq_true (by omega)).symm
                | false => exact (decide_eq_false (fun h => by have := HBt.out.2 ⟨hlt2, by omega⟩; cases this)).symm
              subst hB
              go_wp2_with fail
              go_meet
              exact ⟨rfl, rfl⟩
            · have hlti : ¬ (b : Int) < (keys.length : Int) := by omega
              have hB : B = false := by
                cases B with
                | true => exact absurd (HBt.out.1 rfl).1 hlt2
                | false => rfl
              subst hB
              go_wp2_with fail
              go_meet
              exact ⟨rfl, rfl⟩
          case rest =>
            obtain ⟨rfl, rfl⟩ := hcut
            cases B with
            | true =>
              obtain ⟨hlt2, hM0⟩ := HBt.out.1 rfl
              have hlti : (b : Int) < (keys.length : Int) := by omega
              obtain ⟨_, _, hek, _, _, hk3⟩ := NN.out.k.txt
              injection hek with ek1 _ ek2
              obtain ⟨gk, ok, eak, hgk, hck⟩ := hk3 (by omega)
              rw [← ek1] at eak
              clear hk3 ek1 ek2
              have c2 := hck b hlt2
              have hsz := HKS.out keys[b] (List.getElem_mem hlt2)
              have hC := hSO keys[b] wi NN.out.s hsz
              have eg : keys.getD b ⟨#[]⟩ = keys[b] := by simp [hlt2]
              by_cases hown : ownV s keys[b] = g
              · have hc1 : cntG s g keys (b + 1) = cntG s g keys b + 1 := cntG_yes (by rw [eg]; exact hown)
                have hat : M[cntG s g keys b]? = some (b : Int) := by
                  have e := EM.out
                  subst e
                  exact mov_at hM0 hlt2 (by rw [eg]; exact hown)
                obtain ⟨hcl1, hMb⟩ := List.getElem?_eq_some_iff.1 hat
                obtain ⟨_, _, hem, _, _, hm3⟩ := NN.out.m.one
                injection hem with em1 _ em2
                obtain ⟨gm, om, eam, hgm, hcm⟩ := hm3 (by omega)
                rw [← em1] at eam
                clear hm3 em1 em2
                have c1 := hcm _ hcl1
                rw [hMb] at c1
                rw [hown] at hC
                have HC1 : Hid (cntG s g keys (b + 1) = cntG s g keys b + 1) := hc1
                generalize cntG s g keys b = cn at c1 hcl1 HC1
                generalize keys[b] = kj at c2 hC hsz
                have hci : (cn : Int) < (M.length : Int) := by omega
                have dg : (g == g) = true := by simp
                have db : ((b : Int) != (b : Int)) = false := by simp
                clear hown eg hc1 hat hMb hcm hck HBt
                subst eam eak
                go_wp2_with fail
                refine hC.mono ?_
                rintro e w18 ⟨rfl, hb18⟩
                have N18 : Hid (On w w18 (.slice al l.length cl) l (.slice ar R.length cr) R (.slice as' s.length cs) s (.slice (some ⟨gk, ok, none⟩) keys.length ck) keys (.slice (some ⟨gm, om, none⟩) M.length cm) M) := NN.out.kept hb18
                have c3 := (hb18.cell (p := ⟨gm, om + cn, none⟩) hgm).trans c1
                clear hb18 NN hC c1 c2
                go_wp2_with fail
                go_roundw
                case rel => exact ⟨b + 1, by omega, by go_num, by rw [HC1.out]; go_num, N18⟩
                case measure => simp [intOf]; omega
              · have HC1 : Hid (cntG s g keys (b + 1) = cntG s g keys b) := cntG_no (by rw [eg]; exact hown)
                have dg : (ownV s keys[b] == g) = false := by simp [hown]
                generalize ownV s keys[b] = q1 at hC dg
                generalize keys[b] = kj at c2 hC hsz
                generalize cntG s g keys b = cn at HC1
                clear hown eg hck HBt
                subst eak
                go_wp2_with fail
                refine hC.mono ?_
                rintro e w18 ⟨rfl, hb18⟩
                have N18 : Hid (On w w18 (.slice al l.length cl) l (.slice ar R.length cr) R (.slice as' s.length cs) s (.slice (some ⟨gk, ok, none⟩) keys.length ck) keys (.slice am M.length cm) M) := NN.out.kept hb18
                clear hb18 NN hC c2
                go_wp2_with fail
                go_roundw
                case rel => exact ⟨b + 1, by omega, by go_num, by rw [HC1.out], N18⟩
                case measure => simp [intOf]; omega
            | false =>
              clear HBt
              generalize cntG s g keys b = cn
              by_cases hR0 : R.length = 0
              · have ho1 : o = -1 := by
                  rw [EO.out]
                  unfold ownV
                  rw [← ER.out, List.eq_nil_of_length_eq_zero hR0]
                  rfl
                subst ho1
                have HL : Hid (Below w.heap.size w wi) := NN.out.low
                clear NN
                go_wp2_with fail
                go_ret
                exact ⟨rfl, HL.out⟩
              · have hR0i : ((R.length : Int) == 0) = false := by rw [beq_eq_false_iff_ne]; omega
                have hokl : srvOk l = true := rnkV_some (by rw [← ER.out]; omega)
                have HSv : Hid (srvOk l = true) := hokl
                have ERk : Hid (R = rnk (wgV k) l) := by show _ = _; rw [ER.out]; exact rnkV_is hokl
                have HRis : Hid (l.Pairwise (· < ·)) := (srvOk_iff.1 hokl).ris
                clear hokl
                go_wp2_with fail
                obtain ⟨w18, rfl⟩ : ∃ z, z = wi := ⟨_, rfl⟩
                go_loopw [17] (fun i wr => ∃ a : Nat, 1 ≤ a ∧ a ≤ R.length ∧ i = .int .i64 a ∧ Hid (On w wr (.slice al l.length cl) l (.slice ar R.length cr) R (.slice as' s.length cs) s (.slice ak keys.length ck) keys (.slice am M.length cm) M)) (fun i _ => R.length - (intOf i).toNat)
                case atStart => exact ⟨1, Nat.le_refl _, by omega, rfl, NN⟩
                case round =>
                  clear NN
                  obtain ⟨a, ha1, ha2, rfl, NN⟩ := hrel
                  by_cases hlt3 : a < R.length
                  · have hlti : (a : Int) < (R.length : Int) := by omega
                    have hfall : wgV k R[a] ≤ wgV k (R[a - 1]'(by omega)) := by
                      have e := ERk.out
                      subst e
                      exact rnk_falls (wgV k) HRis.out (a - 1) a hlt3 (by omega)
                    obtain ⟨_, _, her, _, _, hr3⟩ := NN.out.r.one
                    injection her with er1 _ er2
                    obtain ⟨gr, or', ear, hgr, hcr⟩ := hr3 (by omega)
                    rw [← er1] at ear
                    clear hr3 er1 er2
                    have k1 := cell_regrown (hcr a hlt3)
                    have k2 := cell_regrown (hcr (a - 1) (by omega))
                    have j1 : ∀ d os, Calls Tryd.prog 21 #[.int .i64 R[a], .string k] (grow (redrawn wr d) os) fun e w'' => e = .returned (.int .i64 (wgV k R[a])) ∧ ∃ p : Regrown, w'' = grow (redrawn wr p.d) p.os := fun d os => Calls.regrown_of (SW R[a] _)
                    have j2 : ∀ d os, Calls Tryd.prog 21 #[.int .i64 (R[a - 1]'(by omega)), .string k] (grow (redrawn wr d) os) fun e w'' => e = .returned (.int .i64 (wgV k (R[a - 1]'(by omega)))) ∧ ∃ p : Regrown, w'' = grow (redrawn wr p.d) p.os := fun d os => Calls.regrown_of (SW _ _)
                    generalize wgV k R[a] = W1 at j1 hfall
                    generalize wgV k (R[a - 1]'(by omega)) = W2 at j2 hfall
                    generalize R[a] = x1 at k1 j1
                    generalize R[a - 1]'(by omega) = x2 at k2 j2
                    have hm1 : ((a : Int) - 1).toNat = a - 1 := by omega
                    have hm2 : ¬ (a : Int) - 1 < 0 := by omega
                    have hm3 : (a : Int) - 1 < (R.length : Int) := by omega
                    clear hcr
                    subst ear
                    go_wp2_with fail
                    refine wp_region_quiet_below (by kernel_rfl) (by kernel_rfl) ?_
                    repeat (go_big_quiet_step (first | with_reducible exact j1 _ _ | with_reducible exact j2 _ _))
                    refine wpQuiet_nil ?_
                    intro _ hw'
                    obtain ⟨⟨dq, osq⟩, hw''⟩ := hw'
                    subst hw''
                    have BN : Hid (On w (grow (redrawn wr dq) osq) (.slice al l.length cl) l (.slice (some ⟨gr, or', none⟩) R.length cr) R (.slice as' s.length cs) s (.slice ak keys.length ck) keys (.slice am M.length cm) M) := NN.out.kept (below_regrown wr dq osq)
                    generalize grow (redrawn wr dq) osq = wn at BN ⊢
                    clear NN j1 j2 k1 k2
                    go_wp2_with fail
                    go_roundw
                    case rel => exact ⟨a + 1, by omega, by omega, by go_num, BN⟩
                    case measure => simp [intOf]; omega
                  · obtain rfl : a = R.length := by omega
                    have NA : Hid (OwnsN (wr.alloc (.cells #[] 2)) wr.heap.size (.slice (some ⟨wr.heap.size, 0, none⟩) 0 0) []) := (show Hid _ from OwnsE.born (E := intE) (ty := 2) wr)
                    have NB : Hid (Below wr.heap.size wr (wr.alloc (.cells #[] 2))) := (Below.refl _ wr).alloc (Nat.le_refl _) _
                    obtain ⟨wB, hwB⟩ : ∃ z, z = wr := ⟨_, rfl⟩
                    rw [← hwB] at NA NB NN ⊢
                    clear hwB
                    go_wp2_with fail
                    go_loopw [18, 19] (fun v i wr => ∃ (a : Nat) (ra : Option Addr) (rc : Nat), a ≤ l.length ∧ i = .int .i64 a ∧ v = .slice ra (gon (l.take a) o).length rc ∧ Hid (OwnsN wr wB.heap.size (.slice ra (gon (l.take a) o).length rc) (gon (l.take a) o)) ∧ Hid (Below wB.heap.size wB wr)) (fun _ i _ => l.length - (intOf i).toNat)
                    case atStart => exact ⟨0, _, _, Nat.zero_le _, rfl, rfl, NA, NB⟩
                    case round =>
                      clear NA NB
                      obtain ⟨a, ra, rc, ha, rfl, rfl, hO, hB⟩ := hrel
                      by_cases hlt4 : a < l.length
                      · have hlti : (a : Int) < (l.length : Int) := by omega
                        obtain ⟨_, _, hel, _, _, hl3⟩ := NN.out.l.one
                        injection hel with el1 _ el2
                        obtain ⟨gl, ol, eal, hgl, hcl⟩ := hl3 (by omega)
                        rw [← el1] at eal
                        clear hl3 el1 el2
                        have c0 := (hB.out.cell (p := ⟨gl, ol + a, none⟩) hgl).trans (hcl a hlt4)
                        have HN : Hid (gon (l.take (a + 1)) o = gon (l.take a) o ++ (if l[a] = o then [] else [l[a]])) := gon_next hlt4
                        have hpl := Nat.le_trans (gon_len (l.take a) o) (List.length_take_le _ _)
                        generalize l[a] = x at c0 HN
                        generalize gon (l.take a) o = S at hO HN hpl
                        clear hcl
                        subst eal
                        by_cases hx : x = o
                        · have e1 : (x != o) = false := by simp [hx]
                          have HP : Hid (gon (l.take (a + 1)) o = S) := by show _ = _; rw [HN.out, if_pos hx, List.append_nil]
                          clear hx HN
                          go_wp2_with fail
                          go_roundw
                          case rel => exact ⟨a + 1, ra, rc, by omega, by go_num, by rw [HP.out], by rw [HP.out]; exact hO, hB⟩
                          case measure => simp [intOf]; omega
                        · have e1 : (x != o) = true := by simp [hx]
                          have HP : Hid (gon (l.take (a + 1)) o = S ++ [x]) := by show _ = _; rw [HN.out, if_neg hx]
                          clear hx HN
                          go_wp2_with (at_builtin; refine wpList_pushN _ rfl (.tmp 176) (.tmp 181) rfl wB.heap.size _ _ x rfl hO.out rfl (by omega) hB.out.size ?_; intro v4 w4 ho4 hg4; obtain ⟨a4, c4, hv4, _, _⟩ := ho4.form; subst hv4)
                          go_roundw
                          case rel => exact ⟨a + 1, a4, c4, by omega, by go_num, by rw [HP.out]; simp, by rw [HP.out]; exact ho4, (show Hid _ from belowE hB.out hg4 hB.out.size (OwnsE.from hO.out))⟩
                          case measure => simp [intOf]; omega
                      · obtain rfl : a = l.length := by omega
                        rw [List.take_of_length_le (Nat.le_refl _)] at hO ⊢
                        have NE : Hid (On w wr (.slice al l.length cl) l (.slice ar R.length cr) R (.slice as' s.length cs) s (.slice ak keys.length ck) keys (.slice am M.length cm) M) := NN.out.kept hB.out
                        clear NN hB
                        obtain ⟨o2, t2, hRt⟩ : ∃ o2 t2, R = o2 :: t2 := by
                          cases hc : R with
                          | nil => exact absurd (by rw [hc]; rfl) hR0
                          | cons x t => exact ⟨x, t, rfl⟩
                        have ho2 : o2 = o := by
                          rw [EO.out]
                          unfold ownV
                          rw [← ER.out, hRt]
                          rfl
                        have hlr : R.length = l.length := by rw [ERk.out, rnk_length]
                        have e1 : ((R.length : Int) == (l.length : Int)) = true := by rw [hlr]; simp
                        have h0 : ∀ h : 0 < R.length, R[0] = o := by rw [hRt]; intro h; exact ho2
                        have HGl := Nat.le_trans (gon_len l o) hl10
                        obtain ⟨_, _, her, _, _, hr3⟩ := NE.out.r.one
                        injection her with er1 _ er2
                        obtain ⟨gr, or', ear, hgr, hcr⟩ := hr3 (by omega)
                        rw [← er1] at ear
                        clear hr3 er1 er2
                        have c0 : wr.cell? ⟨gr, or', none⟩ = some (.int .i64 o) := by have := hcr 0 (by omega); rw [h0] at this; simpa using this
                        have hRp : (0 : Int) < (R.length : Int) := by omega
                        have dO : (o == o) = true := by simp
                        have HL : Hid (Below w.heap.size w wr) := NE.out.low
                        have k0 := cell_regrown c0
                        have HLr : Hid (R.length = l.length) := hlr
                        by_cases h1 : R.length = 1
                        · have h1i : ((R.length : Int) == 1) = true := by rw [h1]; rfl
                          clear NE hO hlr h0 c0 hRt ho2 hcr h1
                          subst ear
                          go_wp2_with fail
                          refine wp_region_quiet_below (by kernel_rfl) (by kernel_rfl) ?_
                          repeat (go_big_quiet_step (fail))
                          refine wpQuiet_nil ?_
                          intro _ hw'
                          obtain ⟨⟨dq, osq⟩, hw''⟩ := hw'
                          subst hw''
                          have BN : Hid (Below w.heap.size w (grow (redrawn wr dq) osq)) := (show Hid _ from pastO HL.out (below_regrown wr dq osq))
                          generalize grow (redrawn wr dq) osq = wn at BN ⊢
                          go_wp2_with fail
                          go_ret
                          exact ⟨rfl, BN.out⟩
                        · have h1i : ((R.length : Int) == 1) = false := by rw [beq_eq_false_iff_ne]; omega
                          obtain ⟨x, t3, ht3⟩ : ∃ x t3, t2 = x :: t3 := by
                            cases t2 with
                            | nil => exact absurd (by rw [hRt]; rfl) h1
                            | cons x t => exact ⟨x, t, rfl⟩
                          have h01 : ∀ h : 1 < R.length, R[1] = x := by rw [hRt, ht3]; intro h; rfl
                          have c1 : wr.cell? ⟨gr, or' + 1, none⟩ = some (.int .i64 x) := by have := hcr 1 (by omega); rw [h01] at this; exact this
                          have k1 := cell_regrown c1
                          have hown : ownV (gon l o) k = x := own_rest HSv.out (by rw [← ER.out, hRt, ht3, ho2])
                          have hR2 : (1 : Int) < (R.length : Int) := by omega
                          have j1 : ∀ d os, Calls Tryd.prog 11 #[.slice ra (gon l o).length rc, .string k] (grow (redrawn wr d) os) fun e w'' => e = .returned (.int .i64 x) ∧ ∃ p : Regrown, w'' = grow (redrawn wr p.d) p.os := fun d os => by
                            have := hOr (.slice ra (gon l o).length rc) (gon l o) (grow (redrawn wr d) os) (hO.out.sls.kept (below_regrown wr d os)) HGl
                            rw [hown] at this
                            exact Calls.regrown_of this
                          have dX : (x == x) = true := by simp
                          clear NE hO hlr h0 c0 hRt ho2 hcr h01 c1 ht3 hown hOr
                          subst ear
                          go_wp2_with fail
                          refine wp_region_quiet_below (by kernel_rfl) (by kernel_rfl) ?_
                          repeat (go_big_quiet_step (with_reducible exact j1 _ _))
                          refine wpQuiet_nil ?_
                          intro _ hw'
                          obtain ⟨⟨dq, osq⟩, hw''⟩ := hw'
                          subst hw''
                          have BN : Hid (Below w.heap.size w (grow (redrawn wr dq) osq)) := (show Hid _ from pastO HL.out (below_regrown wr dq osq))
                          generalize grow (redrawn wr dq) osq = wn at BN ⊢
                          go_wp2_with fail
                          go_ret
                          exact ⟨rfl, BN.out⟩
end Go.Proofs.YtdbeoloonoodkaaDoor

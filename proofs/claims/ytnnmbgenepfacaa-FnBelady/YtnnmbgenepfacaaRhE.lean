/-
  The library's heap over the program's: Fix, Push, Pop.
-/
import Derived.Test.YtnnmbgenepfacaaRhD
namespace Go.Proofs.Ytnnmbgenepfacaa
open Go.RowKit Go.Sort Rom
set_option linter.unusedVariables false
set_option linter.unusedSimpArgs false

def isHp (l : List Co) : Prop := Hp (aL l) l.length
theorem HpB.open {w : World} {B b : Nat} {l : List Co} {v : Value} (h : HpB w B b l v) (h0 : 0 < l.length) : ∃ g cap, v = .slice (some ⟨g, 0, none⟩) l.length cap := by
  obtain ⟨a, cap, rfl, _, _, h3⟩ := h.o.form
  rcases h3 with ⟨_, rfl⟩ | ⟨g, rfl⟩
  · obtain ⟨_, _, e, h1, _⟩ := h.o.form
    injection e with _ _ e3
    omega
  · exact ⟨g, cap, rfl⟩
theorem aL_set_else {l : List Co} {i k : Nat} {x : Co} (h : k ≠ i) : aL (l.set i x) k = aL l k := by
  unfold aL
  have e : ¬ i = k := fun e => h e.symm
  simp [List.getD, List.getElem?_set, e]
/-- One element of a heap changed: all is well but beside it. -/
theorem fix_dn {l : List Co} {i : Nat} {x : Co} (h : isHp l) : Dn (aL (l.set i x)) (l.set i x).length i i := by
  rw [List.length_set]
  refine ⟨fun j j0 jn jp ji => ?_, fun i0 c cn c0 cp => ?_, fun e => absurd rfl e⟩
  · rw [aL_set_else ji, aL_set_else jp]
    exact h j j0 jn
  · have hpc := par_lt c0
    have hpi := par_lt i0
    rw [aL_set_else (by omega), aL_set_else (by omega)]
    have h1 := h c c0 cn
    rw [cp] at h1
    have h2 := h i i0 (by omega)
    omega
set_option maxHeartbeats 1000000 in
theorem heapFix (b B g cap i : Nat) (l l0 : List Co) (x : Co) (w : World) (hl0 : l = l0.set i x) (h : HpB w B b l (.slice (some ⟨g, 0, none⟩) l.length cap)) (hl : l.length ≤ 100) (hi : i < l.length) (hn : Nm l) (hh : isHp l0) :
    Calls Try.prog 62 #[hpI b, .int .i64 (i : Int)] w fun e w' => e = .returned (.tuple #[]) ∧ ∃ l', HpB w' B b l' (.slice (some ⟨g, 0, none⟩) l.length cap) ∧ l'.Perm l ∧ isHp l' ∧ Below B w w' := by
  have hm := mthLen h.c
  have hlen := implLen (some ⟨g, 0, none⟩) l.length cap
  have hdn := heapDown b B g cap i l.length l w h hl hi (Nat.le_refl _) hn (by rw [hl0]; exact fix_dn hh)
  have hup := fun W (hW : HpB W B b l (.slice (some ⟨g, 0, none⟩) l.length cap)) hu => heapUp b B g cap i l W hW hl hi hn hu
  obtain ⟨N, hN⟩ : ∃ N, N = l.length := ⟨_, rfl⟩
  rw [← hN] at hlen hdn hup ⊢
  rw [← hN] at hm
  have HNN : Hid (N = l.length) := hN
  unfold hpI at *
  clear h hl0 hN
  go_enter Try.func62, Try.ntmps62
  go_wp2_with fail
  refine (hlen _).mono ?_
  rintro e w' ⟨rfl, rfl⟩
  go_wp2_with fail
  refine hdn.mono ?_
  rintro e w1 ⟨m, l', rfl, hp, hpm, ho, h1, h2, hb⟩
  have HP : Hid _ := hp
  have HM : Hid _ := hpm
  have H1 : Hid _ := h1
  have H2 : Hid _ := h2
  have HB : Hid _ := hb
  clear hp hpm ho h1 h2 hb hdn hm
  cases m with
  | true =>
    have HH : Hid (isHp l') := by
      show Hp _ _
      have := H1.out rfl
      rw [HNN.out, ← HM.out.length_eq] at this
      exact this
    go_wp2
    go_returns
    exact ⟨rfl, l', HP.out, HM.out, HH.out, HB.out⟩
  | false =>
    obtain ⟨u1, u2⟩ := H2.out rfl
    have hu2 := hup w1 (by have := HP.out; rw [u2] at this; exact this) (by rw [u2] at u1; exact u1)
    clear u1 u2 H1 H2
    go_wp2_with fail
    refine hu2.mono ?_
    rintro e w2 ⟨rfl, l2, hp2, hpm2, hh2, hb2⟩
    have HP2 : Hid _ := hp2
    have HM2 : Hid _ := hpm2
    have HB2 : Hid (Below B w w2) := (show Hid _ from HB.out.trans hb2)
    have HH : Hid (isHp l2) := by
      show Hp _ _
      rw [hpm2.length_eq, ← HNN.out]
      exact hh2
    clear hp2 hpm2 hh2 hb2
    go_wp2
    go_returns
    exact ⟨rfl, l2, HP2.out, HM2.out, HH.out, HB2.out⟩
theorem aL_append_else {l : List Co} {x : Co} {k : Nat} (h : k < l.length) : aL (l ++ [x]) k = aL l k := by
  unfold aL
  simp [List.getD, List.getElem?_append_left h]
theorem push_up {l : List Co} {x : Co} (h : isHp l) : Up (aL (l ++ [x])) (l ++ [x]).length l.length := by
  rw [List.length_append]
  refine ⟨fun k k0 kn kl => ?_, fun j0 c cn c0 cp => ?_⟩
  · have := par_lt k0
    simp at kn
    rw [aL_append_else (by omega), aL_append_else (by omega)]
    exact h k k0 (by omega)
  · have := par_lt c0
    simp at cn
    omega
set_option maxHeartbeats 1000000 in
theorem heapPush (b B : Nat) (l : List Co) (v : Value) (x : Co) (w : World) (h : HpB w B b l v) (hl : l.length ≤ 90) (hn : Nm (l ++ [x])) (hh : isHp l) :
    Calls Try.prog 65 #[hpI b, .iface 74 (coV x)] w fun e w' => e = .returned (.tuple #[]) ∧ ∃ l' v', HpB w' B b l' v' ∧ l'.Perm (l ++ [x]) ∧ isHp l' ∧ Below B w w' := by
  have hm := mthPush b
  have hpu := implPushM b B l v x w h (by omega)
  have hup := fun g cap W (hW : HpB W B b (l ++ [x]) (.slice (some ⟨g, 0, none⟩) (l ++ [x]).length cap)) => heapUp b B g cap l.length (l ++ [x]) W hW (by rw [List.length_append]; simp; omega) (by rw [List.length_append]; simp) hn (push_up hh)
  have hlx : (l ++ [x]).length = l.length + 1 := by rw [List.length_append]; rfl
  have HI : Hid (∀ l', l'.Perm (l ++ [x]) → Hp (aL l') (l ++ [x]).length → isHp l') := (show ∀ _, _ from fun l' p h => by show Hp _ _; rw [p.length_eq]; exact h)
  generalize l ++ [x] = m at hpu hup hlx HI ⊢
  have hw : IntKind.i64.wrap ((m.length : Int) - 1) = (l.length : Int) := by rw [IntKind.wrap_i64]; omega
  have hm0 : 0 < m.length := by omega
  unfold hpI coV at *
  clear h hn hh hlx
  go_enter Try.func65, Try.ntmps65
  go_wp2_with fail
  refine hpu.mono ?_
  rintro e w1 ⟨rfl, v1, hp1, hb1⟩
  obtain ⟨g, cap, rfl⟩ := hp1.open (by omega)
  have hm2 := mthLen hp1.c
  have hup1 := hup g cap w1 hp1
  have HB1 : Hid _ := hb1
  clear hp1 hb1 hup hpu hm
  go_wp2_with fail
  refine (implLen (some ⟨g, 0, none⟩) m.length cap _).mono ?_
  rintro e w' ⟨rfl, rfl⟩
  go_wp2_with fail
  refine hup1.mono ?_
  rintro e w2 ⟨rfl, l2, hp2, hpm2, hh2, hb2⟩
  have HP2 : Hid _ := hp2
  have HM2 : Hid _ := hpm2
  have HB2 : Hid (Below B w w2) := (show Hid _ from HB1.out.trans hb2)
  have HH : Hid (isHp l2) := HI.out l2 hpm2 hh2
  clear hp2 hpm2 hh2 hb2
  go_wp2
  go_returns
  exact ⟨rfl, l2, _, HP2.out, HM2.out, HH.out, HB2.out⟩
theorem swp_last {l : List Co} {n : Nat} (hn : l.length = n + 1) : (swpC l 0 n)[n]? = l[0]? := by
  unfold swpC
  have h0 : 0 < l.length := by omega
  have hn' : n < l.length := by omega
  simp [List.getElem?_set, hn', List.getD, h0]
theorem pop_dn {l : List Co} {n : Nat} (hn : l.length = n + 1) (h : isHp l) : Dn (aL (swpC l 0 n)) n 0 0 := by
  refine ⟨fun j j0 jn jp ji => ?_, fun h => absurd h (by decide), fun e => absurd rfl e⟩
  have := par_lt j0
  rw [swpC_else ji (by omega), swpC_else jp (by omega)]
  exact h j j0 (by omega)
/-- What is left behind the last one went: the rest of what was, but the front. -/
theorem pop_perm {l l' : List Co} {n : Nat} (hn : l.length = n + 1) (hp : l'.Perm (swpC l 0 n)) (ho : ∀ k, n ≤ k → l'[k]? = (swpC l 0 n)[k]?) (h0 : 0 < l.length) : (l[0] :: l'.take n).Perm l := by
  have hl : l'.length = n + 1 := by rw [hp.length_eq, swpC_length, hn]
  have e1 : l'[n]? = some l[0] := by
    rw [ho n (Nat.le_refl _), swp_last hn]
    simp [h0]
  have e2 : l' = l'.take n ++ [l[0]] := by
    have h3 := List.take_succ_eq_append_getElem (l := l') (i := n) (by omega)
    have h4 : l'[n]'(by omega) = l[0] := by
      have := List.getElem?_eq_getElem (l := l') (i := n) (by omega)
      rw [this] at e1
      injection e1
    rw [h4, List.take_of_length_le (by omega)] at h3
    exact h3
  have p1 : (l[0] :: l'.take n).Perm (l'.take n ++ [l[0]]) := (List.perm_append_comm (l₁ := l'.take n) (l₂ := [l[0]])).symm
  rw [← e2] at p1
  exact p1.trans (hp.trans (swpC_perm h0 (by omega)))
theorem aL_take {l : List Co} {n k : Nat} (h : k < n) : aL (l.take n) k = aL l k := by
  unfold aL
  simp [List.getD, List.getElem?_take, h]
set_option maxRecDepth 100000 in
set_option maxHeartbeats 2000000 in
theorem heapPop (b B : Nat) (l : List Co) (v : Value) (w : World) (h : HpB w B b l v) (hl : l.length ≤ 90) (h0 : 0 < l.length) (hn : Nm l) (hh : isHp l) :
    Calls Try.prog 64 #[hpI b] w fun e w' => (∃ u, e = .returned u) ∧ ∃ l' v', HpB w' B b l' v' ∧ (l[0] :: l').Perm l ∧ isHp l' ∧ Below B w w' := by
  obtain ⟨g, cap, rfl⟩ := h.open h0
  obtain ⟨n, hnl⟩ : ∃ n, l.length = n + 1 := ⟨l.length - 1, by omega⟩
  have hm := mthLen h.c
  have hms := mthSwap h.c
  have hsw := swapHp (i := 0) (j := n) h rfl (by omega) (by omega) (by omega)
  have hlen := implLen (some ⟨g, 0, none⟩) l.length cap
  have hsl : (swpC l 0 n).length = l.length := swpC_length l 0 n
  have hsn : Nm (swpC l 0 n) := hn.perm (swpC_perm h0 (by omega))
  have hdn := fun W (hW : HpB W B b (swpC l 0 n) (.slice (some ⟨g, 0, none⟩) l.length cap)) => heapDown b B g cap 0 n (swpC l 0 n) W (by rw [hsl]; exact hW) (by rw [hsl]; omega) (by rw [hsl]; omega) (by rw [hsl]; omega) hsn (pop_dn hnl hh)
  rw [hsl] at hdn
  have HF : Hid (∀ (l' : List Co), l'.Perm (swpC l 0 n) → (∀ k, n ≤ k → l'[k]? = (swpC l 0 n)[k]?) → Hp (aL l') n → l'.length = n + 1 ∧ (l[0] :: l'.take n).Perm l ∧ isHp (l'.take n)) := by
    intro l' hp ho hhp
    have e : l'.length = n + 1 := by rw [hp.length_eq, hsl, hnl]
    refine ⟨e, pop_perm hnl hp ho h0, fun k k0 kn => ?_⟩
    rw [List.length_take] at kn
    have := par_lt k0
    rw [aL_take (by omega), aL_take (by omega)]
    exact hhp k k0 (by omega)
  have hw : IntKind.i64.wrap ((l.length : Int) - 1) = (n : Int) := by rw [IntKind.wrap_i64]; omega
  have HU : Hid (∀ l', Up (aL l') n 0 → Hp (aL l') n) := (show ∀ _, _ from fun l' hu => hu.exit (fun e => absurd e (by decide)))
  have HNL : Hid (l.length = n + 1) := hnl
  have hn9 : n < 90 := by omega
  unfold hpI at *
  clear h hnl hsl hsn hn hh
  go_enter Try.func64, Try.ntmps64
  go_wp2_with fail
  refine (hlen _).mono ?_
  rintro e w' ⟨rfl, rfl⟩
  go_wp2_with fail
  refine hsw.mono ?_
  rintro e w1 ⟨rfl, hp1, hb1⟩
  have hdn1 := hdn w1 hp1
  have HB1 : Hid _ := hb1
  clear hp1 hb1 hdn hm hms hsw
  go_wp2_with fail
  refine hdn1.mono ?_
  rintro e w2 ⟨m, l2, rfl, hp2, hpm2, ho2, h12, h22, hb2⟩
  have HH : Hp (aL l2) n := by
    cases m with
    | true => exact h12 rfl
    | false => exact HU.out l2 (h22 rfl).1
  obtain ⟨k1, k2, k3⟩ := HF.out l2 hpm2 ho2 HH
  have hpo := implPopM b B l2 (.slice (some ⟨g, 0, none⟩) l.length cap) w2 hp2 (by omega) (by omega)
  rw [show l2.length - 1 = n by omega] at hpo
  have HB2 : Hid (Below B w w2) := (show Hid _ from HB1.out.trans hb2)
  have K2 : Hid _ := k2
  have K3 : Hid _ := k3
  have hm3 := mthPop b
  clear hp2 hpm2 ho2 h12 h22 hb2 HH k1 k2 k3 hdn1
  go_wp2_with fail
  refine hpo.mono ?_
  rintro e w3 ⟨⟨u, rfl⟩, v3, hp3, hb3⟩
  have HP3 : Hid _ := hp3
  have HB3 : Hid (Below B w w3) := (show Hid _ from HB2.out.trans hb3)
  clear hp3 hb3 hpo
  go_wp2
  go_ret
  exact ⟨⟨_, rfl⟩, _, _, HP3.out, K2.out, K3.out, HB3.out⟩
end Go.Proofs.Ytnnmbgenepfacaa

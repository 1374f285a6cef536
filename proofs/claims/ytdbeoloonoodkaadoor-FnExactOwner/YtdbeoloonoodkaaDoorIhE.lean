/-
  The library's heap over the heap of servers: Push and Pop.
-/
import Derived.Test.YtdbeoloonoodkaaDoorIhD
namespace Go.Proofs.YtdbeoloonoodkaaDoor.Ih
open Go.RowKit Go.Sort Ow
set_option linter.unusedVariables false
set_option linter.unusedSimpArgs false
variable {H : Hw}

def isHp (l : List Co) : Prop := Hp (aL l) l.length
theorem HpB.open {w : World} {B b : Nat} {l : List Co} {v : Value} (h : HpB H w B b l v) (h0 : 0 < l.length) : ∃ g cap, v = .slice (some ⟨g, 0, none⟩) l.length cap := by
  obtain ⟨a, cap, rfl, _, _, h3⟩ := h.o.form
  rcases h3 with ⟨_, rfl⟩ | ⟨g, rfl⟩
  · obtain ⟨_, _, e, h1, _⟩ := h.o.form
    injection e with _ _ e3
    omega
  · exact ⟨g, cap, rfl⟩
theorem aL_append_else {l : List Co} {x : Co} {k : Nat} (h : k < l.length) : aL (l ++ [x]) k = aL l k := by
  unfold aL
  simp [List.getD, List.getElem?_append_left h]
theorem push_up {l : List Co} {x : Co} (h : isHp l) : Up (aL (l ++ [x])) (l ++ [x]).length l.length := by
  rw [List.length_append]
  refine ⟨fun k k0 kn kl => ?_, fun j0 c cn c0 cp => ?_⟩
  · have := par_lt k0
    simp at kn
    rw [aL_append_else (by omega), aL_append_else (by omega)]
    exact h k k0 (by omega)
  · have := par_lt c0
    simp at cn
    omega
set_option maxHeartbeats 1000000 in
theorem heapPush (b B : Nat) (l : List Co) (v : Value) (x : Co) (w : World) (h : HpB H w B b l v) (hl : l.length ≤ 90) (hn : Nm H (l ++ [x])) (hh : isHp l) :
    Calls Tryd.prog 38 #[hpI b, .iface 2 (.int .i64 x.1)] w fun e w' => e = .returned (.tuple #[]) ∧ ∃ l' v', HpB H w' B b l' v' ∧ l'.Perm (l ++ [x]) ∧ isHp l' ∧ Below B w w' := by
  have hm := mthPush b
  have hpu := implPushM b B l v x w h (by omega)
  have hup := fun g cap W (hW : HpB H W B b (l ++ [x]) (.slice (some ⟨g, 0, none⟩) (l ++ [x]).length cap)) => heapUp b B g cap l.length (l ++ [x]) W hW (by rw [List.length_append]; simp; omega) (by rw [List.length_append]; simp) hn (push_up hh)
  have hlx : (l ++ [x]).length = l.length + 1 := by rw [List.length_append]; rfl
  have HI : Hid (∀ l', l'.Perm (l ++ [x]) → Hp (aL l') (l ++ [x]).length → isHp l') := (show ∀ _, _ from fun l' p h => by show Hp _ _; rw [p.length_eq]; exact h)
  generalize l ++ [x] = m at hpu hup hlx HI ⊢
  have hw : IntKind.i64.wrap ((m.length : Int) - 1) = (l.length : Int) := by rw [IntKind.wrap_i64]; omega
  have hm0 : 0 < m.length := by omega
  unfold hpI at *
  clear h hn hh hlx
  go_enter Tryd.func38, Tryd.ntmps38
  go_wp2_with fail
  refine hpu.mono ?_
  rintro e w1 ⟨rfl, v1, hp1, hb1⟩
  obtain ⟨g, cap, rfl⟩ := hp1.open (by omega)
  have hm2 := mthLen b
  have hl1 := implLen b (some ⟨g, 0, none⟩) m.length cap w1 hp1.c
  have hup1 := hup g cap w1 hp1
  have HB1 : Hid _ := hb1
  clear hp1 hb1 hup hpu hm
  go_wp2_with fail
  refine hl1.mono ?_
  rintro e w' ⟨rfl, rfl⟩
  go_wp2_with fail
  refine hup1.mono ?_
  rintro e w2 ⟨rfl, l2, hp2, hpm2, hh2, hb2⟩
  have HP2 : Hid _ := hp2
  have HM2 : Hid _ := hpm2
  have HB2 : Hid (Below B w w2) := (show Hid _ from HB1.out.trans hb2)
  have HH : Hid (isHp l2) := HI.out l2 hpm2 hh2
  clear hp2 hpm2 hh2 hb2
  go_wp2
  go_returns
  exact ⟨rfl, l2, _, HP2.out, HM2.out, HH.out, HB2.out⟩
theorem swp_last {l : List Co} {n : Nat} (hn : l.length = n + 1) : (swpC l 0 n)[n]? = l[0]? := by
  unfold swpC
  have h0 : 0 < l.length := by omega
  have hn' : n < l.length := by omega
  simp [List.getElem?_set, hn', List.getD, h0]
theorem pop_dn {l : List Co} {n : Nat} (hn : l.length = n + 1) (h : isHp l) : Dn (aL (swpC l 0 n)) n 0 0 := by
  refine ⟨fun j j0 jn jp ji => ?_, fun h => absurd h (by decide), fun e => absurd rfl e⟩
  have := par_lt j0
  rw [swpC_else ji (by omega), swpC_else jp (by omega)]
  exact h j j0 (by omega)
/-- What is left behind the last one went: the rest of what was, but the front. -/
theorem pop_perm {l l' : List Co} {n : Nat} (hn : l.length = n + 1) (hp : l'.Perm (swpC l 0 n)) (ho : ∀ k, n ≤ k → l'[k]? = (swpC l 0 n)[k]?) (h0 : 0 < l.length) : (l[0] :: l'.take n).Perm l := by
  have hl : l'.length = n + 1 := by rw [hp.length_eq, swpC_length, hn]
  have e1 : l'[n]? = some l[0] := by
    rw [ho n (Nat.le_refl _), swp_last hn]
    simp [h0]
  have e2 : l' = l'.take n ++ [l[0]] := by
    have h3 := List.take_succ_eq_append_getElem (l := l') (i := n) (by omega)
    have h4 : l'[n]'(by omega) = l[0] := by
      have := List.getElem?_eq_getElem (l := l') (i := n) (by omega)
      rw [this] at e1
      injection e1
    rw [h4, List.take_of_length_le (by omega)] at h3
    exact h3
  have p1 : (l[0] :: l'.take n).Perm (l'.take n ++ [l[0]]) := (List.perm_append_comm (l₁ := l'.take n) (l₂ := [l[0]])).symm
  rw [← e2] at p1
  exact p1.trans (hp.trans (swpC_perm h0 (by omega)))
theorem aL_take {l : List Co} {n k : Nat} (h : k < n) : aL (l.take n) k = aL l k := by
  unfold aL
  simp [List.getD, List.getElem?_take, h]
theorem pop_last {l l' : List Co} {n : Nat} (hn : l.length = n + 1) (ho : ∀ k, n ≤ k → l'[k]? = (swpC l 0 n)[k]?) (h0 : 0 < l.length) (hl : n < l'.length) : l'[n] = l[0] := by
  have e1 : l'[n]? = some l[0] := by
    rw [ho n (Nat.le_refl _), swp_last hn]
    simp [h0]
  rw [List.getElem?_eq_getElem hl] at e1
  injection e1
set_option maxRecDepth 100000 in
set_option maxHeartbeats 2000000 in
theorem heapPop (b B : Nat) (l : List Co) (v : Value) (w : World) (h : HpB H w B b l v) (hl : l.length ≤ 90) (h0 : 0 < l.length) (hn : Nm H l) (hh : isHp l) :
    Calls Tryd.prog 40 #[hpI b] w fun e w' => e = .returned (.iface 2 (.int .i64 l[0].1)) ∧ ∃ l' v', HpB H w' B b l' v' ∧ (l[0] :: l').Perm l ∧ isHp l' ∧ Below B w w' := by
  obtain ⟨g, cap, rfl⟩ := h.open h0
  obtain ⟨n, hnl⟩ : ∃ n, l.length = n + 1 := ⟨l.length - 1, by omega⟩
  have hm := mthLen b
  have hms := mthSwap b
  have hsw := swapHp (i := 0) (j := n) h rfl (by omega) (by omega) (by omega)
  have hlen := implLen b (some ⟨g, 0, none⟩) l.length cap w h.c
  have hsl : (swpC l 0 n).length = l.length := swpC_length l 0 n
  have hsn : Nm H (swpC l 0 n) := hn.perm (swpC_perm h0 (by omega))
  have hdn := fun W (hW : HpB H W B b (swpC l 0 n) (.slice (some ⟨g, 0, none⟩) l.length cap)) => heapDown b B g cap 0 n (swpC l 0 n) W (by rw [hsl]; exact hW) (by rw [hsl]; omega) (by rw [hsl]; omega) (by rw [hsl]; omega) hsn (pop_dn hnl hh)
  rw [hsl] at hdn
  have HF : Hid (∀ (l' : List Co), l'.Perm (swpC l 0 n) → (∀ k, n ≤ k → l'[k]? = (swpC l 0 n)[k]?) → Hp (aL l') n → l'.length = n + 1 ∧ (l[0] :: l'.take n).Perm l ∧ isHp (l'.take n) ∧ ∀ h : n < l'.length, l'[n] = l[0]) := by
    intro l' hp ho hhp
    have e : l'.length = n + 1 := by rw [hp.length_eq, hsl, hnl]
    refine ⟨e, pop_perm hnl hp ho h0, fun k k0 kn => ?_, fun hh9 => pop_last hnl ho h0 hh9⟩
    rw [List.length_take] at kn
    have := par_lt k0
    rw [aL_take (by omega), aL_take (by omega)]
    exact hhp k k0 (by omega)
  have hw : IntKind.i64.wrap ((l.length : Int) - 1) = (n : Int) := by rw [IntKind.wrap_i64]; omega
  have HU : Hid (∀ l', Up (aL l') n 0 → Hp (aL l') n) := (show ∀ _, _ from fun l' hu => hu.exit (fun e => absurd e (by decide)))
  have HNL : Hid (l.length = n + 1) := hnl
  have hn9 : n < 90 := by omega
  unfold hpI at *
  clear h hnl hsl hsn hn hh
  go_enter Tryd.func40, Tryd.ntmps40
  go_wp2_with fail
  refine hlen.mono ?_
  rintro e w' ⟨rfl, rfl⟩
  go_wp2_with fail
  refine hsw.mono ?_
  rintro e w1 ⟨rfl, hp1, hb1⟩
  have hdn1 := hdn w1 hp1
  have HB1 : Hid _ := hb1
  clear hp1 hb1 hdn hm hms hsw
  go_wp2_with fail
  refine hdn1.mono ?_
  rintro e w2 ⟨m, l2, rfl, hp2, hpm2, ho2, h12, h22, hb2⟩
  have HH : Hp (aL l2) n := by
    cases m with
    | true => exact h12 rfl
    | false => exact HU.out l2 (h22 rfl).1
  obtain ⟨k1, k2, k3, k4⟩ := HF.out l2 hpm2 ho2 HH
  have hpo := implPopM b B l2 (.slice (some ⟨g, 0, none⟩) l.length cap) w2 hp2 (by omega) n k1
  rw [k4 (by omega)] at hpo
  have HB2 : Hid (Below B w w2) := (show Hid _ from HB1.out.trans hb2)
  have K2 : Hid _ := k2
  have K3 : Hid _ := k3
  have hm3 := mthPop b
  clear hp2 hpm2 ho2 h12 h22 hb2 HH k1 k2 k3 k4 hdn1
  go_wp2_with fail
  refine hpo.mono ?_
  rintro e w3 ⟨rfl, v3, hp3, hb3⟩
  have HP3 : Hid _ := hp3
  have HB3 : Hid (Below B w w3) := (show Hid _ from HB2.out.trans hb3)
  clear hp3 hb3 hpo
  go_wp2
  go_ret
  exact ⟨rfl, _, _, HP3.out, K2.out, K3.out, HB3.out⟩
end Go.Proofs.YtdbeoloonoodkaaDoor.Ih

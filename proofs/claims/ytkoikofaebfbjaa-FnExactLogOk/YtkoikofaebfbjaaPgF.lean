/-
  The walk of the exact law of logs, given what the program's LogOk answers.
-/
import Derived.Test.YtkoikofaebfbjaaPgE
namespace Go.Proofs.Ytkoikofaebfbjaa
open Go.RowKit Pg
set_option linter.unusedVariables false
set_option linter.unusedSimpArgs false

theorem szP_fitG {l : List ByteArray} (h : ¬ szP l < 0) : l.length ≤ 1048576 ∧ ∀ x ∈ l, x.size ≤ 1048576 := by
  unfold szP at h
  split at h
  · rename_i hh
    refine ⟨by omega, fun x hx => ?_⟩
    have : x.size ≤ sumP l := by
      clear h hh
      induction l with
      | nil => cases hx
      | cons y l ih =>
        have e : sumP (y :: l) = y.size + sumP l := by simp [sumP]
        rcases List.mem_cons.1 hx with rfl | hx
        · omega
        · have := ih hx; omega
    omega
  · omega
set_option maxRecDepth 100000 in
set_option maxHeartbeats 4000000 in
theorem walkLog (hi : ∀ (v : Value) (L : List ByteArray) (w : World), Sls txtE w v L → L.length ≤ 1048576 → (∀ x ∈ L, x.size ≤ 1048576) → Calls Try.prog 19 #[v] w fun e w' => e = .returned (.bool (logB L)) ∧ Below w.heap.size w w')
    (v : Value) (L : List ByteArray) (w : World) (h : Sls txtE w v L) (hs : ∀ p ∈ L, p.size ≤ maxLen) :
    Calls Try.prog 6 #[v] w fun e w' => e = .returned (.bool true) ∧ Below w.heap.size w w' := by
  have hz := fun W hW => szTxt v L W hW hs
  have hfit := szP_fitG (l := L)
  have hto := fun (hl : L.length ≤ 1048576) W hW => toTxt v L W hW hl
  have heq := fun (hl : L.length ≤ 1048576) u u2 W h1 h2 => eqTxt u u2 L W h1 h2 hl
  have hsp := fun (hl : ∀ x ∈ L, x.size ≤ 1048576) u W hW => specLog u L W hW hl
  have him := fun (h1 : L.length ≤ 1048576) (h2 : ∀ x ∈ L, x.size ≤ 1048576) u W hW => hi u L W hW h1 h2
  generalize szP L = V at hz hfit
  generalize logB L = T at hsp him
  have dT : (T != T) = false := by simp
  have HH : Hid (Sls txtE w v L) := h
  obtain ⟨a, cap, rfl, _⟩ := h.txt
  clear hi h
  go_enter Try.func6, Try.ntmps6
  go_wp2_with fail
  refine (hz _ HH.out).mono ?_
  rintro e w1 ⟨rfl, hb⟩
  have B1 : Hid (Below w.heap.size w w1) := hb
  clear hb hz
  by_cases hV : V < 0
  · go_wp2
    go_ret
    exact ⟨rfl, B1.out⟩
  · obtain ⟨hf1, hf2⟩ := hfit (by omega)
    have hto := hto hf1
    have heq := heq hf1
    have hsp := hsp hf2
    have him := him hf1 hf2
    clear hf2 hs hfit
    go_wp2_with fail
    refine (hto _ (HH.out.kept B1.out)).mono ?_
    rintro e w2 ⟨u2, rfl, ho, hb⟩
    have B2 : Hid (Below w.heap.size w w2) := (show Hid _ from pastG B1.out hb)
    have hs2 : Hid (Sls txtE w2 u2 L) := ho.sls
    obtain ⟨a2, c2, rfl, _⟩ := ho.form
    clear hb ho B1
    go_wp2_with fail
    refine (hsp _ _ hs2.out).mono ?_
    rintro e w3 ⟨rfl, hb⟩
    have B3 : Hid (Below w.heap.size w w3) := (show Hid _ from pastG B2.out hb)
    clear hb B2 hs2
    go_wp2_with fail
    refine (hto _ (HH.out.kept B3.out)).mono ?_
    rintro e w4 ⟨u4, rfl, ho, hb⟩
    have B4 : Hid (Below w.heap.size w w4) := (show Hid _ from pastG B3.out hb)
    have hs4 : Hid (Sls txtE w4 u4 L) := ho.sls
    obtain ⟨a4, c4, rfl, _⟩ := ho.form
    clear hb ho B3
    go_wp2_with fail
    refine (him _ _ hs4.out).mono ?_
    rintro e w5 ⟨rfl, hb⟩
    have B5 : Hid (Below w.heap.size w w5) := (show Hid _ from pastG B4.out hb)
    have hs5 : Hid (Sls txtE w5 (.slice a4 L.length c4) L) := (show Hid _ from hs4.out.kept hb)
    clear hb B4 hs4
    go_wp2_with fail
    refine (hto _ (HH.out.kept B5.out)).mono ?_
    rintro e w6 ⟨u6, rfl, ho, hb⟩
    have B6 : Hid (Below w.heap.size w w6) := (show Hid _ from pastG B5.out hb)
    have hs6 : Hid (Sls txtE w6 (.slice a4 L.length c4) L) := (show Hid _ from hs5.out.kept hb)
    have ht6 : Hid (Sls txtE w6 u6 L) := ho.sls
    obtain ⟨a6, c6, rfl, _⟩ := ho.form
    clear hb ho B5 hs5
    go_wp2_with fail
    refine (heq _ _ _ hs6.out ht6.out).mono ?_
    rintro e w7 ⟨rfl, hg⟩
    have B7 : Hid (Below w.heap.size w w7) := (show Hid _ from pastG B6.out hg.low)
    clear hg B6
    go_wp2
    go_ret
    exact ⟨rfl, B7.out⟩
end Go.Proofs.Ytkoikofaebfbjaa

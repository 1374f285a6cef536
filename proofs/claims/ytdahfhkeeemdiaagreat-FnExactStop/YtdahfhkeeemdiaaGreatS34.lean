/-
  The program's countAnew: who leads counts, who does not counts nothing.
  Both sides' NewReplica.
  The walk of FnExactNewReplica, given both sides' NewReplica.
-/
import Derived.Test.YtdahfhkeeemdiaaGreatS33
import Derived.Test.YtdahfhkeeemdiaaGreatS30
import Derived.Test.YtdahfhkeeemdiaaGreatS32
namespace Go.Proofs.YtdahfhkeeemdiaaGreat.Rl
open Go.RowKit Go.Sort Go.Shelf
set_option linter.unusedVariables false
set_option linter.unusedSimpArgs false

/-- Counted anew. -/
noncomputable def anew (r : Rp) : Rp := @ite _ (leads r) (Classical.propDecidable _) (cntd { r with ok := List.replicate r.p.toNat 0 }) { r with ok := [] }
set_option maxRecDepth 100000 in
set_option maxHeartbeats 8000000 in
theorem implAnew (r : Rp) (u : Rv) (b : Nat) (w : World) (hB : RpB w b r u) (hl : ∃ a c, u.l = .slice a r.l.length c) (hp : pOk r.p) (hid : 0 ≤ r.id ∧ r.id < r.p) (hv : 0 ≤ r.v ∧ r.v ≤ 20000) (hc : 0 ≤ r.c) (hlen : r.l.length ≤ 1048576) :
    Calls Tryz.prog 82 #[.pointer (some ⟨b, 0, none⟩)] w fun e w' => e = .returned (.tuple #[]) ∧ ∃ v, RpB w' b (anew r) { u with ok := v } ∧ HasN w' w.heap.size v (anew r).ok ∧ ChS (fun k => k = b) w w' := by
  obtain ⟨i0, hi, hz0, hz1, hz2⟩ := info_parts Tryz.infoN2
  have HB : Hid (RpB w b r u) := hB
  have hbz : b < w.heap.size := Bx.lt hB
  have W1B : Hid (RpB ((w.setCell ⟨b, 7, none⟩ (.slice (some ⟨w.heap.size, 0, none⟩) 0 0)).alloc (.cells #[] 2)) b { r with ok := [] } { u with ok := .slice (some ⟨w.heap.size, 0, none⟩) 0 0 }) := (show Hid _ from Bx.alloc (Bx.put HB.out 7 _) _)
  have O1 : Hid (OwnsN ((w.setCell ⟨b, 7, none⟩ (.slice (some ⟨w.heap.size, 0, none⟩) 0 0)).alloc (.cells #[] 2)) w.heap.size (.slice (some ⟨w.heap.size, 0, none⟩) 0 0) []) := (show Hid _ from by
    have := OwnsE.born (E := intE) (ty := 2) (w.setCell ⟨b, 7, none⟩ (.slice (some ⟨w.heap.size, 0, none⟩) 0 0))
    rw [show (w.setCell ⟨b, 7, none⟩ (.slice (some ⟨w.heap.size, 0, none⟩) 0 0)).heap.size = w.heap.size from by simp] at this
    exact this)
  have C1 : Hid (ChS (fun k => k = b) w ((w.setCell ⟨b, 7, none⟩ (.slice (some ⟨w.heap.size, 0, none⟩) 0 0)).alloc (.cells #[] 2))) := (show Hid _ from ((ChS.refl (fun k => k = b) w).set ⟨b, 7, none⟩ _ rfl).trans (ChS.of_below ((Below.refl _ _).alloc (Nat.le_refl _) _)))
  have q7 := Bx.cell (Bx.alloc HB.out (.cells #[] 2)) 7
  have qf := Bx.free (Bx.alloc HB.out (.cells #[] 2)) 7
  have jL := fun W hW => implLeads { r with ok := [] } { u with ok := .slice (some ⟨w.heap.size, 0, none⟩) 0 0 } b W hW hv hp
  have Z1 : Hid (w.heap.size ≤ ((w.setCell ⟨b, 7, none⟩ (.slice (some ⟨w.heap.size, 0, none⟩) 0 0)).alloc (.cells #[] 2)).heap.size) := C1.out.size
  obtain ⟨n, hn⟩ : ∃ n : Nat, (n : Int) = r.p := ⟨r.p.toNat, by rcases hp with h | h | h <;> omega⟩
  have hn5 : n ≤ 5 := by rcases hp with h | h | h <;> omega
  have hnn : r.p.toNat = n := by omega
  have jc := fun W (hW : RpB W b { r with ok := List.replicate n 0 } { u with ok := .slice (some ⟨W.heap.size, 0, none⟩) n n }) => hW
  clear jc hB
  have HX : Hid (pOk r.p ∧ (0 ≤ r.id ∧ r.id < r.p) ∧ 0 ≤ r.c ∧ r.l.length ≤ 1048576 ∧ ∃ a c, u.l = .slice a r.l.length c) := ⟨hp, hid, hc, hlen, hl⟩
  clear hp hid hc hlen hl hv
  change (w.alloc (.cells #[] 2)).cell? ⟨b, 7, none⟩ = some u.ok at q7
  change (w.alloc (.cells #[] 2)).frozen? ⟨b, 7, none⟩ = false at qf
  go_enter Tryz.func82, Tryz.ntmps82
  go_wp2_with fail
  clear q7 qf
  generalize (w.setCell ⟨b, 7, none⟩ (.slice (some ⟨w.heap.size, 0, none⟩) 0 0)).alloc (.cells #[] 2) = w1 at W1B O1 C1 Z1 ⊢
  refine (jL _ W1B.out).mono ?_
  rintro e w2 ⟨rfl, hb⟩
  have W2B : Hid (RpB w2 b { r with ok := [] } { u with ok := .slice (some ⟨w.heap.size, 0, none⟩) 0 0 }) := (show Hid _ from Bx.kept W1B.out hb)
  have O2 : Hid (OwnsN w2 w.heap.size (.slice (some ⟨w.heap.size, 0, none⟩) 0 0) []) := (show Hid _ from O1.out.kept hb)
  have C2 : Hid (ChS (fun k => k = b) w w2) := (show Hid _ from C1.out.trans (ChS.of_below hb))
  have Z2 : Hid (w.heap.size ≤ w2.heap.size) := (show _ ≤ _ from Nat.le_trans Z1.out hb.size)
  clear hb W1B O1 C1 Z1 jL
  cases hld : dB (leads { r with ok := [] }) with
  | false =>
    have HA : Hid (anew r = { r with ok := [] }) := (show _ = _ by unfold anew; exact if_neg (dB_not hld))
    go_wp2
    go_end0
    refine ⟨rfl, .slice (some ⟨w.heap.size, 0, none⟩) 0 0, ?_, ?_, C2.out⟩
    · rw [HA.out]; exact W2B.out
    · rw [HA.out]; exact O2.out.has
  | true =>
    have HA : Hid (anew r = cntd { r with ok := List.replicate n 0 }) := (show _ = _ by unfold anew; rw [hnn]; exact if_pos (dB_is hld))
    obtain ⟨w3, hrun, hown, hgr⟩ := run_make_full (P := Tryz.prog) w2 w.heap.size 25 2 i0 (.int .i64 0) 1 Tryz.underlying25 hi hz0 hz1 .i64 .i64 n (by rw [hz2]; omega) (by unfold maxLen; omega) Z2.out
    rw [madeN] at hown
    have hb3 : Below w2.heap.size w2 w3 := (Below.refl _ w2).grown hgr (Nat.le_refl _) (fun j hj => by cases hj)
    have hbz2 : b < w2.heap.size := Bx.lt W2B.out
    have O3 : Hid (OwnsN w3 w.heap.size (.slice (some ⟨w2.heap.size, 0, none⟩) n n) (List.replicate n 0)) := (show w3.ownsRow _ _ 1 _ _ _ from by rw [List.length_replicate]; exact hown)
    have W3B : Hid (RpB (w3.setCell ⟨b, 7, none⟩ (.slice (some ⟨w2.heap.size, 0, none⟩) n n)) b { r with ok := List.replicate n 0 } { u with ok := .slice (some ⟨w2.heap.size, 0, none⟩) n n }) := (show Hid _ from Bx.put (Bx.kept W2B.out hb3) 7 _)
    have O4 : Hid (OwnsN (w3.setCell ⟨b, 7, none⟩ (.slice (some ⟨w2.heap.size, 0, none⟩) n n)) w.heap.size (.slice (some ⟨w2.heap.size, 0, none⟩) n n) (List.replicate n 0)) := (show Hid _ from OwnsE.other O3.out _ _ (fun k hk => by
      have : w2.heap.size = k := by simpa [Value.ownBlock] using hk
      show k ≠ b
      omega))
    have C3 : Hid (ChS (fun k => k = b) w (w3.setCell ⟨b, 7, none⟩ (.slice (some ⟨w2.heap.size, 0, none⟩) n n))) := (show Hid _ from (C2.out.trans (ChS.of_below hb3)).set _ _ rfl)
    have q1 := Bx.cell W2B.out 1
    change w2.cell? ⟨b, 1, none⟩ = some (.int .i64 r.p) at q1
    rw [hn] at hrun
    have q7 := Bx.cell (Bx.kept W2B.out hb3) 7
    have qf := Bx.free (Bx.kept W2B.out hb3) 7
    change w3.cell? ⟨b, 7, none⟩ = some (.slice (some ⟨w.heap.size, 0, none⟩) 0 0) at q7
    change w3.frozen? ⟨b, 7, none⟩ = false at qf
    have j3 := implCnt { r with ok := List.replicate n 0 } { u with ok := .slice (some ⟨w2.heap.size, 0, none⟩) n n } b w.heap.size _ W3B.out O4.out.has HX.out.2.2.2.2 (fun k hk => by
      have : w2.heap.size = k := by simpa [Value.ownBlock] using hk
      omega) HX.out.1 (by rw [List.length_replicate]; exact hn) HX.out.2.1 HX.out.2.2.1 (fun x hx => by rw [(List.mem_replicate.1 hx).2]; show (0 : Int) ≤ (r.l.length : Int); omega) HX.out.2.2.2.1
    clear O3 hown hgr W2B O2 C2 hi hz0 hz1 hz2 hld hb3
    go_wp2_with fail
    clear q1 q7 qf hrun
    refine j3.mono ?_
    rintro e w5 ⟨rfl, h1, h2, h3⟩
    have HB5 : Hid (RpB w5 b (anew r) { u with ok := .slice (some ⟨w2.heap.size, 0, none⟩) n n }) := (show Hid _ from by rw [HA.out]; exact h1)
    have HO5 : Hid (HasN w5 w.heap.size (.slice (some ⟨w2.heap.size, 0, none⟩) n n) (anew r).ok) := (show Hid _ from by rw [HA.out]; exact h2)
    have C5 : Hid (ChS (fun k => k = b) w w5) := ⟨h3.os.trans C3.out.os, h3.tape.trans C3.out.tape, h3.output.trans C3.out.output, Nat.le_trans C3.out.size h3.size, fun k hk hn => by
      rw [h3.block k (Nat.lt_of_lt_of_le hk C3.out.size) (fun e => by
        rcases e with e | e
        · exact hn e
        · have : w2.heap.size = k := by simpa [Value.ownBlock] using e
          have := Z2.out
          omega)]
      exact C3.out.block k hk hn⟩
    clear h1 h2 h3 j3
    go_wp2
    go_end0
    exact ⟨rfl, _, HB5.out, HO5.out, C5.out⟩
end Go.Proofs.YtdahfhkeeemdiaaGreat.Rl
namespace Go.Proofs.YtdahfhkeeemdiaaGreat.Rl
open Go.RowKit Go.Sort Go.Shelf
set_option linter.unusedVariables false
set_option linter.unusedSimpArgs false

/-- Whether there is such a replica, and it. -/
def newB (id p : Int) : Bool := decide (pOk p) && ipB id p
def newZ (id p : Int) : List Int := if id = 0 then List.replicate p.toNat 0 else []
def newA (id p : Int) : Rp := if newB id p = true then ⟨id, p, 0, true, 0, [], 0, newZ id p, [], []⟩ else noRp
def newU (v : Value) : Rv := ⟨.slice none 0 0, v, .slice none 0 0, .slice none 0 0, []⟩
def NewAns (id p : Int) (w : World) (e : Ending) (w' : World) : Prop := ∃ a c, e = .returned (.tuple #[rpA (newA id p) (newU (.slice a (newA id p).ok.length c)), .bool (newB id p)]) ∧ HasN w' w.heap.size (.slice a (newA id p).ok.length c) (newA id p).ok ∧ Below w.heap.size w w'
theorem newA_no {id p : Int} (h : newB id p = false) : newA id p = noRp := by unfold newA; rw [h]; rfl
theorem NewAns.no {id p : Int} {w w' : World} (h : newB id p = false) (hb : Below w.heap.size w w') : NewAns id p w (.returned (.tuple #[.agg #[.int .i64 0, .int .i64 0, .int .i64 0, .bool false, .int .i64 0, .slice none 0 0, .int .i64 0, .slice none 0 0, .slice none 0 0, .slice none 0 0], .bool false])) w' := by
  refine ⟨none, 0, ?_, ?_, hb⟩
  · rw [h, newA_no h]; rfl
  · rw [newA_no h]; exact .inl ⟨rfl, rfl⟩
end Go.Proofs.YtdahfhkeeemdiaaGreat.Rl
namespace Go.Proofs.YtdahfhkeeemdiaaGreat.Rl
open Go.RowKit Go.Sort
set_option linter.unusedVariables false
set_option linter.unusedSimpArgs false

theorem markRp1 {r : Rp} {u : Rv} {lo hi : Nat} (hf : Fit r) (hc : 1 + cR r ≤ 50000000) (W : World) (h : RpF lo hi u r W) (hap : RpAp u) :
    Calls Tryz.prog 36 #[rpA r u, .int .i64 1] W fun e w' => e = .returned (.int .i64 (kR r)) ∧ RpF lo hi (mkRv 1 r u) (mkRp 1 r u.T) w' ∧ Chg lo hi W w' :=
  (markRp 1 (by decide) r u lo hc W h.1 hap hf).mono fun e w' ⟨h1, h2, h3⟩ =>
    ⟨h1, ⟨h2, fun v hv => h.2 v (by rw [mkRv_rows] at hv; exact hv)⟩, h3.chg (fun k ⟨v, hv, hk⟩ => ⟨h.1.from v hv k hk, h.2 v hv k hk⟩)⟩
theorem heldRp1 {r : Rp} {u : Rv} {lo hi : Nat} (hf : Fit r) (hc : 1 + cR r ≤ 50000000) (W : World) (h : RpF lo hi (mkRv 1 r u) (mkRp 1 r u.T) W) (ht : u.T.map (·.m) = r.te) :
    Calls Tryz.prog 38 #[rpA r u, .int .i64 1] W fun e w' => e = .returned (.int .i64 (kR r)) ∧ Below W.heap.size W w' :=
  heldRp 1 (by decide) r u hc W h.1.got ht hf
end Go.Proofs.YtdahfhkeeemdiaaGreat.Rl

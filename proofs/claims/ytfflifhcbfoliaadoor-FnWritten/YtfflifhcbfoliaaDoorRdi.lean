/-
  A date read: the program's contract.
-/
import Derived.Test.YtfflifhcbfoliaaDoorDt
import Derived.Deep.RegionWith
import Derived.BigRegion
import Derived.Deep.Cut
import Derived.Deep.CutRange
namespace Go.Proofs.YtfflifhcbfoliaaDoor
open Go.RowKit Go.Sort

set_option maxHeartbeats 8000000 in
theorem implRead_x (t : ByteArray) (w : World) (ht : Tab w) (hz : t.size = 29) :
    Calls Tryd.prog 11 #[.string t] w fun e w' => (∃ v, e = .returned v ∧ ReadIs t v) ∧ Grew w w' := by
  have G : Grew (w.alloc (.cells #[.int .i64 0, .int .i64 0, .int .i64 0, .int .i64 0, .int .i64 0, .int .i64 0] 25)) (w.alloc (.cells #[.int .i64 0, .int .i64 0, .int .i64 0, .int .i64 0, .int .i64 0, .int .i64 0] 25)) := Grew.refl _
  have hd := fun a b (x : World) => digNought (t.extract a b) x (by rw [ByteArray.size_extract]; unfold maxLen; omega)
  have HT : Hid (∀ x, Grew (w.alloc (.cells #[.int .i64 0, .int .i64 0, .int .i64 0, .int .i64 0, .int .i64 0, .int .i64 0] 25)) x → Tab x) := fun x h => ht.grew (((Grew.refl w).alloc _).trans h)
  clear ht
  go_enter Tryd.func11, Tryd.ntmps11
  go_wp2_with fail
  go_cut [4] from 9 to 27 (fun p wx => ∃ g, p = .pointer (some ⟨g, 0, none⟩) ∧ Dt wx g (numV 10 15 (t.extract 12 16)) (monV (t.extract 8 11)) (numV 10 15 (t.extract 5 7)) (numV 10 15 (t.extract 17 19)) (numV 10 15 (t.extract 20 22)) (numV 10 15 (t.extract 23 25)) ∧ Grew (w.alloc (.cells #[.int .i64 0, .int .i64 0, .int .i64 0, .int .i64 0, .int .i64 0, .int .i64 0] 25)) wx)
  case first =>
    go_region_with (first | (go_at_call 29; refine (hd _ _ _).mono ?_; rintro e x2 ⟨rfl, hb2⟩; (first | (replace G := G.trans hb2; first | (replace Z := Z.grew hb2; obtain ⟨⟨_, c0, c1, c2, c3, c4, c5⟩, hf⟩ := id Z; have f0 := hf 0; have f1 := hf 1; have f2 := hf 2; have f3 := hf 3; have f4 := hf 4; have f5 := hf 5; clear hf) | skip) | (replace G := G.drew.trans hb2) | (have hgz := G.low.size; (first | replace G := (G.alloc _).trans hb2 | replace G := (G.drew.alloc _).trans hb2 | replace G := ((G.alloc _).drew).trans hb2); (first | have Z := Zb.of hb2 | have Z := Zb.of (((Grew.refl _).drew).trans hb2)); (try simp at Z); obtain ⟨⟨_, c0, c1, c2, c3, c4, c5⟩, hf⟩ := id Z; have f0 := hf 0; have f1 := hf 1; have f2 := hf 2; have f3 := hf 3; have f4 := hf 4; have f5 := hf 5; clear hf)); clear hb2) | (go_at_call 30; refine (monNamed _ _).mono ?_; rintro e x2 ⟨rfl, hb2⟩; (first | (replace G := G.trans hb2; first | (replace Z := Z.grew hb2; obtain ⟨⟨_, c0, c1, c2, c3, c4, c5⟩, hf⟩ := id Z; have f0 := hf 0; have f1 := hf 1; have f2 := hf 2; have f3 := hf 3; have f4 := hf 4; have f5 := hf 5; clear hf) | skip) | (replace G := G.drew.trans hb2) | (have hgz := G.low.size; (first | replace G := (G.alloc _).trans hb2 | replace G := (G.drew.alloc _).trans hb2 | replace G := ((G.alloc _).drew).trans hb2); (first | have Z := Zb.of hb2 | have Z := Zb.of (((Grew.refl _).drew).trans hb2)); (try simp at Z); obtain ⟨⟨_, c0, c1, c2, c3, c4, c5⟩, hf⟩ := id Z; have f0 := hf 0; have f1 := hf 1; have f2 := hf 2; have f3 := hf 3; have f4 := hf 4; have f5 := hf 5; clear hf)); clear hb2))
    all_goals (try go_wp2_with fail)
    all_goals go_meet
    all_goals first
      | exact ⟨_, rfl, Z.puts _ _ _ _ _ _, G.puts (by first | exact hgz | simp) _ _ _ _ _ _⟩
      | exact ⟨_, rfl, Dt.born _ _ _ _ _ _ _ _, G.alloc _⟩
  case rest =>
    obtain ⟨g, rfl, hD, G2⟩ := hcut
    have HP : Hid (∀ y m d h i s : Int, okD y m d h i s → showA y m d h i s = t → (numV 10 15 (t.extract 12 16)) = y ∧ (monV (t.extract 8 11)) = m ∧ (numV 10 15 (t.extract 5 7)) = d ∧ (numV 10 15 (t.extract 17 19)) = h ∧ (numV 10 15 (t.extract 20 22)) = i ∧ (numV 10 15 (t.extract 23 25)) = s) := fun y m d h i s ok e => by
      obtain ⟨a1, a2, a3, a4, a5, a6, _⟩ := parts_of ok e
      exact ⟨a1, a2, a3, a4, a5, a6⟩
    generalize numV 10 15 (t.extract 12 16) = y at hD HP
    generalize monV (t.extract 8 11) = m at hD HP
    generalize numV 10 15 (t.extract 5 7) = d at hD HP
    generalize numV 10 15 (t.extract 17 19) = h at hD HP
    generalize numV 10 15 (t.extract 20 22) = i at hD HP
    generalize numV 10 15 (t.extract 23 25) = s at hD HP
    have k := hD
    obtain ⟨_, k0, k1, k2, k3, k4, k5⟩ := k
    have HZ : Hid (t.size = 29) := hz
    clear G hd
    by_cases he : showV y m d h i s = t
    · have hq := bytes_eq he
      have HE : Hid (okD y m d h i s ∧ showA y m d h i s = t) := showV_full hz he
      clear he hz
      go_wp2_with (go_at_call 8; refine (implShow _ _ _ _ _ _ _ (HT.out _ G2)).mono ?_; rintro e x3 ⟨rfl, hb3⟩; have D3 := hD.grew hb3; obtain ⟨_, q0, q1, q2, q3, q4, q5⟩ := D3; have G3 := G2.trans hb3; obtain ⟨r0, r1, r2, r3, r4, r5⟩ := boxCells G3; have f0 := boxFree G3 0; have f1 := boxFree G3 1; have f2 := boxFree G3 2; have f3 := boxFree G3 3; have f4 := boxFree G3 4; have f5 := boxFree G3 5; clear hb3)
      refine bodyPost_ret (v := .tuple #[.agg #[.int .i64 y, .int .i64 m, .int .i64 d, .int .i64 h, .int .i64 i, .int .i64 s], .bool true]) (by simp [results, Tryd.results11, go_sem, r0, r1, r2, r3, r4, r5]) rfl ⟨⟨_, rfl, .inl ⟨y, m, d, h, i, s, HE.out.1, HE.out.2, rfl⟩⟩, ?_⟩
      exact (((Grew.refl w).alloc _).trans G3).puts (Nat.le_refl _) _ _ _ _ _ _
    · have hq := bytes_ne he
      have HE : Hid (∀ y m d h i s : Int, okD y m d h i s → showA y m d h i s ≠ t) := fun y' m' d' h' i' s' ok' e' => by
        obtain ⟨rfl, rfl, rfl, rfl, rfl, rfl⟩ := HP.out y' m' d' h' i' s' ok' e'
        exact he ((showV_of ok').trans e')
      clear he hz
      go_wp2_with (go_at_call 8; refine (implShow _ _ _ _ _ _ _ (HT.out _ G2)).mono ?_; rintro e x3 ⟨rfl, hb3⟩; have G3 := G2.trans hb3; obtain ⟨r0, r1, r2, r3, r4, r5⟩ := boxCells G3; have f0 := boxFree G3 0; have f1 := boxFree G3 1; have f2 := boxFree G3 2; have f3 := boxFree G3 3; have f4 := boxFree G3 4; have f5 := boxFree G3 5; clear hb3)
      refine bodyPost_ret (v := .tuple #[.agg #[.int .i64 0, .int .i64 0, .int .i64 0, .int .i64 0, .int .i64 0, .int .i64 0], .bool false]) (by simp [results, Tryd.results11, go_sem, r0, r1, r2, r3, r4, r5]) rfl ⟨⟨_, rfl, .inr ⟨HE.out, rfl⟩⟩, ?_⟩
      exact (((Grew.refl w).alloc _).trans G3).puts (Nat.le_refl _) _ _ _ _ _ _

theorem implRead_o (t : ByteArray) (w : World) (hm : t.size ≤ maxLen) (hz : t.size ≠ 29) :
    Calls Tryd.prog 11 #[.string t] w fun e w' => (∃ v, e = .returned v ∧ ReadIs t v) ∧ Grew w w' := by
  have hm2 := hm
  unfold maxLen at hm2
  have HE : Hid (∀ y m d h i s : Int, okD y m d h i s → showA y m d h i s ≠ t) := fun y m d h i s _ e => hz (by rw [← e]; exact showA_size y m d h i s)
  go_enter Tryd.func11, Tryd.ntmps11
  go_wp2
  refine bodyPost_ret (v := .tuple #[.agg #[.int .i64 0, .int .i64 0, .int .i64 0, .int .i64 0, .int .i64 0, .int .i64 0], .bool false]) (by simp [results, Tryd.results11, go_sem]) rfl ⟨⟨_, rfl, .inr ⟨HE.out, rfl⟩⟩, (Grew.refl w).alloc _⟩
theorem implRead (t : ByteArray) (w : World) (ht : Tab w) (hm : t.size ≤ maxLen) :
    Calls Tryd.prog 11 #[.string t] w fun e w' => (∃ v, e = .returned v ∧ ReadIs t v) ∧ Grew w w' := by
  by_cases hz : t.size = 29
  · exact implRead_x t w ht hz
  · exact implRead_o t w hm hz
end Go.Proofs.YtfflifhcbfoliaaDoor

/-
  The program's submit.
  The program's Submit.
  What a call answers that answers a replica and messages, opened; how great it is; the messages marked and held from where the replica's marks end.
-/
import Derived.Test.YtdahfhkeeemdiaaGreatT40
import Derived.Test.YtdahfhkeeemdiaaGreatT32
import Derived.Test.YtdahfhkeeemdiaaGreatT25
import Derived.Test.YtdahfhkeeemdiaaGreatT33
import Derived.Test.YtdahfhkeeemdiaaGreatT35
namespace Go.Proofs.YtdahfhkeeemdiaaGreat.Rl
open Go.RowKit Go.Sort Go.Shelf Pg
set_option linter.unusedVariables false
set_option linter.unusedSimpArgs false

/-- A replica at b that a method leaves, and the messages that it answers. -/
structure RpMs (R : Rp) (L : List Ms) (B b : Nat) (w w' : World) (u' : Rv) (v : Value) (T : List Mx) : Prop where
  at' : RpAt w' B b u' R
  m : ∃ C, (∀ x ∈ u'.rows, ∀ k, x.ownBlock = some k → k < C) ∧ b < C ∧ w.heap.size ≤ C ∧ MsOwn w' C v T L
  bl : Below B w w'
def frSm4 (s t : Nat → Value) : Act := { tmps := #[s 0, s 1, s 2, s 3, s 4, s 5, s 6, s 7, s 8, s 9, s 10, s 11, s 12, s 13, s 14, s 15, s 16, s 17, s 18, s 19, s 20, s 21, s 22, s 23, s 24, s 25, s 26, s 27, s 28, t 29, t 30, t 31, t 32, t 33, t 34, t 35, t 36, t 37, s 38, s 39, s 40, s 41, s 42, s 43, s 44, s 45, s 46, s 47, s 48], defers := [] }
def LSm4 : List Nat := [29, 30, 31, 32, 33, 34, 35, 36, 37]
def dSm4 (i : Nat) : Nat := LSm4.getD i (i + 5000)
theorem dSm4_ne {i j : Nat} (hi : i < 9) (hj : j < 9) (h : j ≠ i) : dSm4 j ≠ dSm4 i := slotsNe (L := LSm4) (by decide) rfl hi hj h
def GSm4 (r : Rp) (tx : ByteArray) (b lo : Nat) (a1 : Option Addr) (d1 : Nat) (i : Nat) (x : World) (v : Value) : Prop := match i with
  | 0 => v = .pointer (some ⟨b, 0, none⟩)
  | 1 => v = .pointer (some ⟨b, 0, none⟩)
  | 2 => v = .pointer (some ⟨b, 0, none⟩)
  | 3 => v = .pointer (some ⟨b, 5, none⟩)
  | 4 => v = .slice a1 r.l.length d1
  | 5 => v = .string tx
  | 6 => v = .string tx
  | 7 => ∃ (gb : Nat), v = .slice (some ⟨gb, 0, none⟩) 1 1 ∧ (lo ≤ gb ∧ Bx x gb 9 #[.string tx])
  | 8 => True
  | _ => True
theorem GSm4.keep {r : Rp} {tx : ByteArray} {b lo : Nat} {a1 : Option Addr} {d1 : Nat} {x y : World} (hb : Below x.heap.size x y) (j : Nat) (v : Value) (hj : j < 9) (h : GSm4 r tx b lo a1 d1 j x v) : GSm4 r tx b lo a1 d1 j y v := by
  rcases (show j = 0 ∨ j = 1 ∨ j = 2 ∨ j = 3 ∨ j = 4 ∨ j = 5 ∨ j = 6 ∨ j = 7 ∨ j = 8 by omega) with rfl | rfl | rfl | rfl | rfl | rfl | rfl | rfl | rfl
  · exact h
  · exact h
  · exact h
  · exact h
  · exact h
  · exact h
  · exact h
  · obtain ⟨gb, h1, h2⟩ := h; exact ⟨gb, h1, h2.1, h2.2.kept hb⟩
  · trivial
theorem GSm4.keepM {r : Rp} {tx : ByteArray} {b lo : Nat} {a1 : Option Addr} {d1 : Nat} {x y : World} (hlo : ∀ k, (Value.slice a1 r.l.length d1).ownBlock = some k → k < lo) (hg : x.grownBy y (Value.slice a1 r.l.length d1).ownBlock) (j : Nat) (v : Value) (hj : j < 9) (hne : j ≠ 8) (h : GSm4 r tx b lo a1 d1 j x v) : GSm4 r tx b lo a1 d1 j y v := by
  rcases (show j = 0 ∨ j = 1 ∨ j = 2 ∨ j = 3 ∨ j = 4 ∨ j = 5 ∨ j = 6 ∨ j = 7 ∨ j = 8 by omega) with rfl | rfl | rfl | rfl | rfl | rfl | rfl | rfl | rfl
  · exact h
  · exact h
  · exact h
  · exact h
  · exact h
  · exact h
  · exact h
  · obtain ⟨gb, h1, h2⟩ := h; exact ⟨gb, h1, h2.1, (hg.block gb (Bx.lt h2.2) (fun e => by have := hlo gb e.symm; have := h2.1; omega)).trans h2.2⟩
  · exact absurd rfl hne
def frSm6 (s t : Nat → Value) : Act := { tmps := #[s 0, s 1, s 2, s 3, t 4, s 5, s 6, s 7, s 8, s 9, s 10, s 11, s 12, s 13, s 14, s 15, s 16, s 17, s 18, s 19, s 20, s 21, s 22, s 23, s 24, s 25, s 26, s 27, s 28, s 29, s 30, s 31, s 32, s 33, s 34, s 35, s 36, s 37, s 38, s 39, s 40, s 41, t 42, t 43, t 44, t 45, t 46, t 47, t 48], defers := [] }
def LSm6 : List Nat := [42, 43, 44, 45, 46, 47, 48, 4]
def dSm6 (i : Nat) : Nat := LSm6.getD i (i + 5000)
theorem dSm6_ne {i j : Nat} (hi : i < 8) (hj : j < 8) (h : j ≠ i) : dSm6 j ≠ dSm6 i := slotsNe (L := LSm6) (by decide) rfl hi hj h
def GSm6 (R : Rp) (b lo : Nat) (la : Option Addr) (lc : Nat) (i : Nat) (x : World) (v : Value) : Prop := match i with
  | 0 => v = .pointer (some ⟨b, 0, none⟩)
  | 1 => ∃ (C : Nat) (T : List Mx) (p1 : Option Addr) (d1 : Nat), v = .slice p1 T.length d1 ∧ (lo ≤ C ∧ C ≤ x.heap.size ∧ MsOwn x C (.slice p1 T.length d1) T (sprL R))
  | 2 => v = .pointer (some ⟨b, 0, none⟩)
  | 3 => v = .pointer (some ⟨b, 0, none⟩)
  | 4 => v = .pointer (some ⟨b, 5, none⟩)
  | 5 => v = .slice la R.l.length lc
  | 6 => v = .int .i64 (R.l.length : Int)
  | 7 => ∃ (C : Nat) (T : List Mx) (p1 : Option Addr) (d1 : Nat), v = .slice p1 T.length d1 ∧ (lo ≤ C ∧ C ≤ x.heap.size ∧ MsOwn x C (.slice p1 T.length d1) T (sprL R))
  | _ => True
theorem GSm6.keep {R : Rp} {b lo : Nat} {la : Option Addr} {lc : Nat} {x y : World} (hb : Below x.heap.size x y) (j : Nat) (v : Value) (hj : j < 8) (h : GSm6 R b lo la lc j x v) : GSm6 R b lo la lc j y v := by
  rcases (show j = 0 ∨ j = 1 ∨ j = 2 ∨ j = 3 ∨ j = 4 ∨ j = 5 ∨ j = 6 ∨ j = 7 by omega) with rfl | rfl | rfl | rfl | rfl | rfl | rfl | rfl
  · exact h
  · obtain ⟨C, T, p1, d1, h1, h2⟩ := h; exact ⟨C, T, p1, d1, h1, h2.1, Nat.le_trans h2.2.1 hb.size, h2.2.2.kept hb⟩
  · exact h
  · exact h
  · exact h
  · exact h
  · exact h
  · obtain ⟨C, T, p1, d1, h1, h2⟩ := h; exact ⟨C, T, p1, d1, h1, h2.1, Nat.le_trans h2.2.1 hb.size, h2.2.2.kept hb⟩
set_option maxRecDepth 100000 in
set_option maxHeartbeats 16000000 in
theorem implSubM (r : Rp) (u : Rv) (B b : Nat) (tx : ByteArray) (w : World) (h : RpAt w B b u r) (hl : OwnsX w B u.l r.l) (hr : RpOk r) (ht : tx.size ≤ 1048576) :
    Calls Tryz.prog 70 #[.pointer (some ⟨b, 0, none⟩), .string tx] w fun e w' => ∃ u' v T, e = .returned (.tuple #[v, .int .i64 (subF r tx).2.2]) ∧ RpMs (subF r tx).1 (subF r tx).2.1 B b w w' u' v T := by
  obtain ⟨a1, d1, a2, d2, a3, d3, a4, d4, M, rfl⟩ := h.got.form
  have H0 : Hid (RpAt w B b ⟨.slice a1 r.l.length d1, .slice a2 r.ok.length d2, .slice a3 r.ch.length d3, .slice a4 r.te.length d4, M⟩ r) := h
  have HL0 : Hid (OwnsX w B (.slice a1 r.l.length d1) r.l) := hl
  have HR : Hid (RpOk r) := hr
  have HT : Hid (tx.size ≤ 1048576) := ht
  have jp := fun W => implRdp tx W ht
  have jl := fun W hW => implLeads r ⟨.slice a1 r.l.length d1, .slice a2 r.ok.length d2, .slice a3 r.ch.length d3, .slice a4 r.te.length d4, M⟩ b W hW ⟨hr.v.1, by have := hr.v; omega⟩ hr.p
  clear h hl hr ht
  go_enter Tryz.func70, Tryz.ntmps70
  go_wp2_with fail
  refine (jp _).mono ?_
  rintro e w1 ⟨rfl, hb1⟩
  have hb2 : Below w.heap.size w (w1.alloc (.cells #[.int .i64 (rdV tx).1, .string (rdV tx).2] 89)) := hb1.trans ((Below.refl _ w1).alloc hb1.size _)
  unfold pgV
  go_upto_region 2 with fail
  generalize hw2 : w1.alloc (.cells #[.int .i64 (rdV tx).1, .string (rdV tx).2] 89) = w2 at hb2 ⊢
  have H2 : Hid (RpAt w2 B b ⟨.slice a1 r.l.length d1, .slice a2 r.ok.length d2, .slice a3 r.ch.length d3, .slice a4 r.te.length d4, M⟩ r) := (show Hid _ from H0.out.kept hb2)
  have HL2 : Hid (OwnsX w2 B (.slice a1 r.l.length d1) r.l) := (show Hid _ from HL0.out.kept hb2)
  have B2 : Hid (Below B w w2) := (show Hid _ from hb2.mono H0.out.le)
  have Z2 : Hid (w.heap.size ≤ w2.heap.size) := hb2.size
  clear hb1 hb2 hw2 H0 HL0 jp
  cases hrd : rdB tx with
  | false =>
    have HREF : Hid (¬ leads r ∨ ¬ rdB tx = true ∨ r.l.length = 60) := (show _ ∨ _ from .inr (.inl (by rw [hrd]; decide)))
    have HE : Hid (subF r tx = (r, [], -1)) := (show _ = _ by unfold subF; exact if_pos HREF.out)
    have hba : Below w2.heap.size w2 (w2.alloc (.cells #[] 30)) := (Below.refl _ w2).alloc (Nat.le_refl _) _
    have HH : Hid (RpMs r [] B b w (w2.alloc (.cells #[] 30)) ⟨.slice a1 r.l.length d1, .slice a2 r.ok.length d2, .slice a3 r.ch.length d3, .slice a4 r.te.length d4, M⟩ (.slice (some ⟨w2.heap.size, 0, none⟩) 0 0) []) := (show Hid _ from ⟨H2.out.kept hba, ⟨w2.heap.size, H2.out.under, H2.out.lt, Z2.out, MsOwn.born w2⟩, B2.out.trans (hba.mono H2.out.le)⟩)
    clear hba
    go_wp2
    refine bodyPost_ret (results_tmp2 (fn := Tryz.f70) (q := 4) (q2 := 5) rfl _ _ (.slice (some ⟨w2.heap.size, 0, none⟩) 0 0) (.int .i64 (-1)) rfl rfl) rfl ?_
    rw [HE.out]
    exact ⟨_, _, _, rfl, HH.out⟩
  | true =>
    go_wp2_with fail
    refine (jl _ H2.out.c).mono ?_
    rintro e w3 ⟨rfl, hb3⟩
    have H3 : Hid (RpAt w3 B b ⟨.slice a1 r.l.length d1, .slice a2 r.ok.length d2, .slice a3 r.ch.length d3, .slice a4 r.te.length d4, M⟩ r) := (show Hid _ from H2.out.kept hb3)
    have HL3 : Hid (OwnsX w3 B (.slice a1 r.l.length d1) r.l) := (show Hid _ from HL2.out.kept hb3)
    have B3 : Hid (Below B w w3) := (show Hid _ from B2.out.trans (hb3.mono H2.out.le))
    have Z3 : Hid (w.heap.size ≤ w3.heap.size) := (show _ ≤ _ from Nat.le_trans Z2.out hb3.size)
    clear hb3 H2 HL2 B2 Z2 jl
    have q5 := H3.out.c.cells.2.2.2.2.2.1
    cases hld : dB (leads r) with
    | false =>
      have HREF : Hid (¬ leads r ∨ ¬ rdB tx = true ∨ r.l.length = 60) := (show _ ∨ _ from .inl (dB_not hld))
      have HE : Hid (subF r tx = (r, [], -1)) := (show _ = _ by unfold subF; exact if_pos HREF.out)
      have hba : Below w3.heap.size w3 (w3.alloc (.cells #[] 30)) := (Below.refl _ w3).alloc (Nat.le_refl _) _
      have HH : Hid (RpMs r [] B b w (w3.alloc (.cells #[] 30)) ⟨.slice a1 r.l.length d1, .slice a2 r.ok.length d2, .slice a3 r.ch.length d3, .slice a4 r.te.length d4, M⟩ (.slice (some ⟨w3.heap.size, 0, none⟩) 0 0) []) := (show Hid _ from ⟨H3.out.kept hba, ⟨w3.heap.size, H3.out.under, H3.out.lt, Z3.out, MsOwn.born w3⟩, B3.out.trans (hba.mono H3.out.le)⟩)
      clear hba
      go_wp2
      refine bodyPost_ret (results_tmp2 (fn := Tryz.f70) (q := 4) (q2 := 5) rfl _ _ (.slice (some ⟨w3.heap.size, 0, none⟩) 0 0) (.int .i64 (-1)) rfl rfl) rfl ?_
      rw [HE.out]
      exact ⟨_, _, _, rfl, HH.out⟩
    | true =>
      by_cases h60 : (60 : Int) ≤ (r.l.length : Int)
      · have HREF : Hid (¬ leads r ∨ ¬ rdB tx = true ∨ r.l.length = 60) := (show _ ∨ _ from .inr (.inr (by have := (logB_sm HR.out.l).1; omega)))
        have HE : Hid (subF r tx = (r, [], -1)) := (show _ = _ by unfold subF; exact if_pos HREF.out)
        have hba : Below w3.heap.size w3 (w3.alloc (.cells #[] 30)) := (Below.refl _ w3).alloc (Nat.le_refl _) _
        have HH : Hid (RpMs r [] B b w (w3.alloc (.cells #[] 30)) ⟨.slice a1 r.l.length d1, .slice a2 r.ok.length d2, .slice a3 r.ch.length d3, .slice a4 r.te.length d4, M⟩ (.slice (some ⟨w3.heap.size, 0, none⟩) 0 0) []) := (show Hid _ from ⟨H3.out.kept hba, ⟨w3.heap.size, H3.out.under, H3.out.lt, Z3.out, MsOwn.born w3⟩, B3.out.trans (hba.mono H3.out.le)⟩)
        clear hba
        go_wp2
        refine bodyPost_ret (results_tmp2 (fn := Tryz.f70) (q := 4) (q2 := 5) rfl _ _ (.slice (some ⟨w3.heap.size, 0, none⟩) 0 0) (.int .i64 (-1)) rfl rfl) rfl ?_
        rw [HE.out]
        exact ⟨_, _, _, rfl, HH.out⟩
      · have HACC : Hid (leads r ∧ rdB tx = true ∧ ¬ r.l.length = 60) := (show _ ∧ _ ∧ _ from ⟨dB_is hld, hrd, by omega⟩)
        go_upto_region 4 with fail
        clear q5 h60 hld hrd
        have HSZ : Hid (r.l.length ≤ 60) := (logB_sm HR.out.l).1
        have HLE : Hid (B ≤ w3.heap.size) := H3.out.le
        have HL := HL3
        have jK := fun x => clonP tx x HT.out
        have CB := fun x (hS : Below w3.heap.size w3 x) => (show x.cell? ⟨b, 5, none⟩ = some (.slice a1 r.l.length d1) from (H3.out.kept hS).c.cells.2.2.2.2.2.1)
        have S0 : Below w3.heap.size w3 w3.drew := ⟨rfl, rfl, rfl, Nat.le_refl _, fun _ _ => rfl⟩
        obtain ⟨lo, hlo⟩ : ∃ lo, lo = w3.heap.size := ⟨_, rfl⟩
        generalize hA : Act.mk _ _ = A
        obtain ⟨s, hs, s0_, s1_⟩ : ∃ s : Nat → Value, A = frSm4 s s ∧ s 0 = .pointer (some ⟨b, 0, none⟩) ∧ s 1 = .string tx := by
          refine ⟨fun i => A.tmps.getD i undef, ?_, ?_, ?_⟩ <;> rw [← hA] <;> rfl
        rw [hs]
        clear hs hA
        refine region_headsL 9 mixed (by decide) (by kernel_rfl) (by kernel_rfl) (by kernel_rfl) (by kernel_rfl) (frSm4 s) dSm4 (StepM 8 37 (fun x => Below w3.heap.size w3 x) (fun v y => ∃ w1, Below w3.heap.size w3 w1 ∧ w1.grownBy y (Value.slice a1 r.l.length d1).ownBlock ∧ OwnsX y B v (r.l ++ [tx]) ∧ (v.ownBlock = (Value.slice a1 r.l.length d1).ownBlock ∨ v.ownBlock = some w1.heap.size))) (GSm4 r tx b lo a1 d1) (fun i j hi hj h => dSm4_ne hi hj h) ?put s rfl ⟨fun _ => S0, fun h => by cases h⟩ ?step ?done
        case put =>
          intro i o hi ho t v
          rcases (show i = 0 ∨ i = 1 ∨ i = 2 ∨ i = 3 ∨ i = 4 ∨ i = 5 ∨ i = 6 ∨ i = 7 ∨ i = 8 by omega) with rfl | rfl | rfl | rfl | rfl | rfl | rfl | rfl | rfl
          all_goals
            obtain rfl := Option.some.inj ho
            rfl
        case step =>
          intro i o hi ho listed hnl hcl hls t x hS hdep K hK
          rcases (show i = 0 ∨ i = 1 ∨ i = 2 ∨ i = 3 ∨ i = 4 ∨ i = 5 ∨ i = 6 ∨ i = 7 ∨ i = 8 by omega) with rfl | rfl | rfl | rfl | rfl | rfl | rfl | rfl | rfl
          all_goals obtain rfl := Option.some.inj ho
          · have hS9 := fun v => hS.free (v := v) (i := 0) (d := 29) (by decide) (by decide)
            have h2 := hK (.pointer (some ⟨b, 0, none⟩)) x (hS9 _) (fun j u hj hne h => h) rfl
            unfold frSm4 at h2 ⊢
            clear hK
            go_simp
            simpa [Act.put, s0_, s1_] using h2
          · have h8 : listed.getD 8 false = false := by
              cases hq : listed.getD 8 false with
              | false => rfl
              | true =>
                have a0 := hcl 8 _ rfl hq { on := 4, ground := Ground.data } (by simp) rfl
                have a1 := hcl 4 _ rfl a0 { on := 3, ground := Ground.data } (by simp) rfl
                have a2 := hcl 3 _ rfl a1 { on := 2, ground := Ground.data } (by simp) rfl
                have a3 := hcl 2 _ rfl a2 { on := 1, ground := Ground.data } (by simp) rfl
                rw [hnl] at a3
                cases a3
            replace hS := hS.1 h8
            have hK0 := hK
            clear hK
            have hK : ∀ v y, (fun x => Below w3.heap.size w3 x) y → (∀ j u, j < 9 → j ≠ 1 → GSm4 r tx b lo a1 d1 j x u → GSm4 r tx b lo a1 d1 j y u) → GSm4 r tx b lo a1 d1 1 y v → K ((frSm4 s t).put _ v) y := fun v y hy h1 h2 => hK0 v y (StepM.before h8 (by decide) hy) h1 h2
            clear hK0
            have h2 := hK (.pointer (some ⟨b, 0, none⟩)) x hS (fun j u hj hne h => h) rfl
            unfold frSm4 at h2 ⊢
            clear hK
            go_simp
            simpa [Act.put, s0_, s1_] using h2
          · have h8 : listed.getD 8 false = false := by
              cases hq : listed.getD 8 false with
              | false => rfl
              | true =>
                have a0 := hcl 8 _ rfl hq { on := 4, ground := Ground.data } (by simp) rfl
                have a1 := hcl 4 _ rfl a0 { on := 3, ground := Ground.data } (by simp) rfl
                have a2 := hcl 3 _ rfl a1 { on := 2, ground := Ground.data } (by simp) rfl
                rw [hnl] at a2
                cases a2
            replace hS := hS.1 h8
            have hK0 := hK
            clear hK
            have hK : ∀ v y, (fun x => Below w3.heap.size w3 x) y → (∀ j u, j < 9 → j ≠ 2 → GSm4 r tx b lo a1 d1 j x u → GSm4 r tx b lo a1 d1 j y u) → GSm4 r tx b lo a1 d1 2 y v → K ((frSm4 s t).put _ v) y := fun v y hy h1 h2 => hK0 v y (StepM.before h8 (by decide) hy) h1 h2
            clear hK0
            have e1 : t 30 = .pointer (some ⟨b, 0, none⟩) := hdep { on := 1, ground := Ground.data } (by simp) rfl
            have h2 := hK (.pointer (some ⟨b, 0, none⟩)) x hS (fun j u hj hne h => h) rfl
            unfold frSm4 at h2 ⊢
            clear hK
            go_simp
            simpa [Act.put, e1, s0_, s1_] using h2
          · have h8 : listed.getD 8 false = false := by
              cases hq : listed.getD 8 false with
              | false => rfl
              | true =>
                have a0 := hcl 8 _ rfl hq { on := 4, ground := Ground.data } (by simp) rfl
                have a1 := hcl 4 _ rfl a0 { on := 3, ground := Ground.data } (by simp) rfl
                rw [hnl] at a1
                cases a1
            replace hS := hS.1 h8
            have hK0 := hK
            clear hK
            have hK : ∀ v y, (fun x => Below w3.heap.size w3 x) y → (∀ j u, j < 9 → j ≠ 3 → GSm4 r tx b lo a1 d1 j x u → GSm4 r tx b lo a1 d1 j y u) → GSm4 r tx b lo a1 d1 3 y v → K ((frSm4 s t).put _ v) y := fun v y hy h1 h2 => hK0 v y (StepM.before h8 (by decide) hy) h1 h2
            clear hK0
            have e2 : t 31 = .pointer (some ⟨b, 0, none⟩) := hdep { on := 2, ground := Ground.data } (by simp) rfl
            have h2 := hK (.pointer (some ⟨b, 5, none⟩)) x hS (fun j u hj hne h => h) rfl
            unfold frSm4 at h2 ⊢
            clear hK
            go_simp
            simpa [Act.put, e2, s0_, s1_] using h2
          · have h8 : listed.getD 8 false = false := by
              cases hq : listed.getD 8 false with
              | false => rfl
              | true =>
                have a0 := hcl 8 _ rfl hq { on := 4, ground := Ground.data } (by simp) rfl
                rw [hnl] at a0
                cases a0
            replace hS := hS.1 h8
            have hK0 := hK
            clear hK
            have hK : ∀ v y, (fun x => Below w3.heap.size w3 x) y → (∀ j u, j < 9 → j ≠ 4 → GSm4 r tx b lo a1 d1 j x u → GSm4 r tx b lo a1 d1 j y u) → GSm4 r tx b lo a1 d1 4 y v → K ((frSm4 s t).put _ v) y := fun v y hy h1 h2 => hK0 v y (StepM.before h8 (by decide) hy) h1 h2
            clear hK0
            have e3 : t 32 = .pointer (some ⟨b, 5, none⟩) := hdep { on := 3, ground := Ground.data } (by simp) rfl
            have y0 := (CB x hS)
            have h2 := hK (.slice a1 r.l.length d1) x hS (fun j u hj hne h => h) rfl
            unfold frSm4 at h2 ⊢
            clear hK
            go_simp
            simpa [Act.put, e3, y0, s0_, s1_] using h2
          · have h8 : listed.getD 8 false = false := by
              cases hq : listed.getD 8 false with
              | false => rfl
              | true =>
                have a0 := hcl 8 _ rfl hq { on := 7, ground := Ground.data } (by simp) rfl
                have a1 := hcl 7 _ rfl a0 { on := 6, ground := Ground.data } (by simp) rfl
                have a2 := hcl 6 _ rfl a1 { on := 5, ground := Ground.data } (by simp) rfl
                rw [hnl] at a2
                cases a2
            replace hS := hS.1 h8
            have hK0 := hK
            clear hK
            have hK : ∀ v y, (fun x => Below w3.heap.size w3 x) y → (∀ j u, j < 9 → j ≠ 5 → GSm4 r tx b lo a1 d1 j x u → GSm4 r tx b lo a1 d1 j y u) → GSm4 r tx b lo a1 d1 5 y v → K ((frSm4 s t).put _ v) y := fun v y hy h1 h2 => hK0 v y (StepM.before h8 (by decide) hy) h1 h2
            clear hK0
            have h2 := hK (.string tx) x hS (fun j u hj hne h => h) rfl
            unfold frSm4 at h2 ⊢
            clear hK
            go_simp
            simpa [Act.put, s0_, s1_] using h2
          · have h8 : listed.getD 8 false = false := by
              cases hq : listed.getD 8 false with
              | false => rfl
              | true =>
                have a0 := hcl 8 _ rfl hq { on := 7, ground := Ground.data } (by simp) rfl
                have a1 := hcl 7 _ rfl a0 { on := 6, ground := Ground.data } (by simp) rfl
                rw [hnl] at a1
                cases a1
            replace hS := hS.1 h8
            have hK0 := hK
            clear hK
            have hK : ∀ v y, (fun x => Below w3.heap.size w3 x) y → (∀ j u, j < 9 → j ≠ 6 → GSm4 r tx b lo a1 d1 j x u → GSm4 r tx b lo a1 d1 j y u) → GSm4 r tx b lo a1 d1 6 y v → K ((frSm4 s t).put _ v) y := fun v y hy h1 h2 => hK0 v y (StepM.before h8 (by decide) hy) h1 h2
            clear hK0
            have e5 : t 34 = .string tx := hdep { on := 5, ground := Ground.data } (by simp) rfl
            refine callG1 (by rfl) 122 (.tmp 34) _ rfl (.string tx) e5 (Go.Proofs.enters_of Tryz.func122 (by kernel_rfl) rfl _) (fun v y => (v = .string tx) ∧ Below x.heap.size x y) ((jK x).mono ?_) ?_
            · rintro e0 y0 ⟨h0, h1⟩
              exact ⟨_, h0, rfl, h1⟩
            · rintro v y ⟨h0, hb2⟩
              exact hK v y (hS.trans (hb2.mono hS.size)) (fun j u hj hne h => GSm4.keep hb2 j u hj h) h0
          · have h8 : listed.getD 8 false = false := by
              cases hq : listed.getD 8 false with
              | false => rfl
              | true =>
                have a0 := hcl 8 _ rfl hq { on := 7, ground := Ground.data } (by simp) rfl
                rw [hnl] at a0
                cases a0
            replace hS := hS.1 h8
            have hK0 := hK
            clear hK
            have hK : ∀ v y, (fun x => Below w3.heap.size w3 x) y → (∀ j u, j < 9 → j ≠ 7 → GSm4 r tx b lo a1 d1 j x u → GSm4 r tx b lo a1 d1 j y u) → GSm4 r tx b lo a1 d1 7 y v → K ((frSm4 s t).put _ v) y := fun v y hy h1 h2 => hK0 v y (StepM.before h8 (by decide) hy) h1 h2
            clear hK0
            have e6 : t 35 = .string tx := hdep { on := 6, ground := Ground.data } (by simp) rfl
            have hba := (Below.refl x.heap.size x).alloc (Nat.le_refl _) (.cells #[.string tx] 9)
            have h2 := hK (.slice (some ⟨x.heap.size, 0, none⟩) 1 1) (x.alloc (.cells #[.string tx] 9)) (hS.trans (hba.mono hS.size)) (fun j u hj hne h => GSm4.keep hba j u hj h) ⟨x.heap.size, rfl, by rw [hlo]; exact hS.size, Bx.new _ _ _⟩
            unfold frSm4 at h2 ⊢
            clear hK
            go_simp
            simpa [Act.put, e6, s0_, s1_] using h2
          · replace hS := hS.1 hnl
            have hm : 8 < listed.size := by rw [hls]; decide
            have e4 : t 33 = .slice a1 r.l.length d1 := hdep { on := 4, ground := Ground.data } (by simp) rfl
            obtain ⟨gb_7, e7, k7⟩ : ∃ (gb : Nat), t 36 = .slice (some ⟨gb, 0, none⟩) 1 1 ∧ (lo ≤ gb ∧ Bx x gb 9 #[.string tx]) := hdep { on := 7, ground := Ground.data } (by simp) rfl
            have hx9 : (x.heap.size : Nat) = x.heap.size := rfl
            refine appG (E := txtE) rfl (.tmp 33) (.tmp 36) 24 9 (.string ⟨#[]⟩) 16 Tryz.underlying24 Tryz.infoX9 rfl rfl B (.slice a1 r.l.length d1) r.l (by show (frSm4 s t).eval (.tmp 33) = _; unfold frSm4; simp [Act.eval, e4]) (HL.out.kept hS) ⟨gb_7, 0, none⟩ 1 [tx] (by show (frSm4 s t).eval (.tmp 36) = _; unfold frSm4; simp [Act.eval, e7]) (fun j q hq => by
                rw [cellsE_single] at hq
                rw [addr_add, Nat.zero_add]
                refine (k7.2.cell j).trans ?_
                simpa [txtE] using hq) (by have := HSZ.out; unfold maxLen; simp only [List.length_singleton]; omega) (by have := HSZ.out; simp only [List.length_singleton]; omega) (Nat.le_trans HLE.out hS.size) ?_
            intro v y ho hg hv
            exact hK v y (StepM.at hm ⟨x, hS, hg, ho, hv⟩) (fun j u hj hne h => GSm4.keepM (fun k hk => by rw [hlo]; exact HL.out.under k hk) hg j u hj hne h) trivial
        case done =>
          intro listed tt x hall hS hG
          obtain ⟨w4, hb4, hg4, ho4, hv4⟩ := hS.2 (hall 8 (by decide))
          have e0 : tt 29 = .pointer (some ⟨b, 0, none⟩) := hG 0 (by decide)
          obtain ⟨pa, pd, e8, _⟩ := ho4.form
          change tt 37 = _ at e8
          have ho5 : OwnsX x B (.slice pa (r.l ++ [tx]).length pd) (r.l ++ [tx]) := by rw [← e8]; exact ho4
          have hv5 : (Value.slice pa (r.l ++ [tx]).length pd).ownBlock = (Value.slice a1 r.l.length d1).ownBlock ∨ (Value.slice pa (r.l ++ [tx]).length pd).ownBlock = some w4.heap.size := by rw [← e8]; exact hv4
          have hsx : w.heap.size ≤ x.heap.size := by have := hb4.size; have := hg4.size; have := Z3.out; omega
          clear ho4 hv4 hall hS hG jK CB S0 hlo HL
          show wpList Tryz.prog _ _ [_, _, _] _ x
          unfold frSm4
          simp only [e0, e8, s0_, s1_]
          clear e0 e8 s0_ s1_
          go_upto_region 5 with (refine wpList_rpGrL H3.out hb4 ho5 hg4 hv5 rfl rfl (.tmp 39) (.tmp 37) rfl rfl rfl ?_; intro w9 h9 _ b9)
          obtain ⟨r1, hr1⟩ : ∃ r1 : Rp, r1 = { r with l := r.l ++ [tx] } := ⟨_, rfl⟩
          have H9 : Hid (RpAt w9 B b ⟨.slice pa (r.l ++ [tx]).length pd, .slice a2 r.ok.length d2, .slice a3 r.ch.length d3, .slice a4 r.te.length d4, M⟩ r1) := (show Hid _ from by rw [hr1]; exact h9)
          have B9 : Hid (Below B w w9) := (show Hid _ from B3.out.trans b9)
          have Z9 : Hid (w.heap.size ≤ w9.heap.size) := (show _ ≤ _ from Nat.le_trans Z3.out b9.size)
          have HR1 : Hid (r1 = { r with l := r.l ++ [tx] }) := hr1
          have e1 : r1.l.length = r.l.length + 1 := by rw [hr1]; exact push_len _ _
          have E1 : Hid (r1.l.length = r.l.length + 1) := e1
          clear h9 b9 hb4 hg4 ho5 hv5 hr1 e1 hsx H3 HL3 B3 Z3
          have hok := HR.out.ok1 HACC.out.1.1 HACC.out.1.2
          have jc := implCntAt r1 _ B b w9 H9.out (by rw [HR1.out]; exact HR.out.p) (by rw [HR1.out]; exact hok.1) (by rw [HR1.out]; exact HR.out.id) (by rw [HR1.out]; exact HR.out.c.1) (fun y hy => by rw [E1.out]; rw [HR1.out] at hy; have := (hok.2.2 y hy).2; omega) (by have := E1.out; have := HSZ.out; omega)
          go_upto_region 6 with (go_at_call 123; refine jc.mono ?_; rintro e w10 ⟨rfl, h10, b10⟩)
          have HE : Hid (subF r tx = (cntd r1, sprL (cntd r1), ((r.l.length + 1 : Nat) : Int))) := (show _ = _ by
            unfold subF
            rw [if_neg (fun hh => by
              rcases hh with hh | hh | hh
              · exact hh HACC.out.1
              · exact hh HACC.out.2.1
              · exact HACC.out.2.2 hh), HR1.out])
          have HK : Hid (RpOk (cntd r1)) := (show RpOk _ by have := (sub_kp (t := tx) HR.out).1.ok; rw [HE.out] at this; exact this)
          have EL : Hid ((cntd r1).l = r1.l) := (show _ = _ from rfl)
          generalize hR : cntd r1 = R at h10 HE HK EL
          have H10 : Hid (RpAt w10 B b ⟨.slice pa (r.l ++ [tx]).length pd, .slice a2 r.ok.length d2, .slice a3 r.ch.length d3, .slice a4 r.te.length d4, M⟩ R) := h10
          have B10 : Hid (Below B w w10) := (show Hid _ from B9.out.trans b10)
          have Z10 : Hid (w.heap.size ≤ w10.heap.size) := (show _ ≤ _ from Nat.le_trans Z9.out b10.size)
          clear h10 b10 jc hok H9 B9 Z9 hR
          obtain ⟨ux, hux⟩ : ∃ ux : Rv, ux = ⟨.slice pa (r.l ++ [tx]).length pd, .slice a2 r.ok.length d2, .slice a3 r.ch.length d3, .slice a4 r.te.length d4, M⟩ := ⟨_, rfl⟩
          rw [← hux] at H10
          obtain ⟨la, lc, e5⟩ := H10.out.lslice
          clear hux
          have CB := fun x (hS : Below w10.heap.size w10 x) => (show x.cell? ⟨b, 5, none⟩ = some (.slice la R.l.length lc) from by rw [← e5]; exact (H10.out.kept hS).c.cells.2.2.2.2.2.1)
          have jS := fun x (hS : Below w10.heap.size w10 x) => implSpr R ux b x (H10.out.kept hS).c ⟨HK.out.v.1, by have := HK.out.v; omega⟩ HK.out.p (H10.out.kept hS).got.l (H10.out.kept hS).got.ch (by have := (logB_sm HK.out.l).1; omega) (by have := HK.out.ch5; omega) (fun y hy => by have := (logB_sm HK.out.l).2 y hy; omega)
          clear e5
          have S0 : Below w10.heap.size w10 w10.drew := ⟨rfl, rfl, rfl, Nat.le_refl _, fun _ _ => rfl⟩
          obtain ⟨lo, hlo⟩ : ∃ lo, lo = w10.heap.size := ⟨_, rfl⟩
          generalize hA : Act.mk _ _ = A
          obtain ⟨s, hs, s0_⟩ : ∃ s : Nat → Value, A = frSm6 s s ∧ s 0 = .pointer (some ⟨b, 0, none⟩) := by
            refine ⟨fun i => A.tmps.getD i undef, ?_, ?_⟩ <;> rw [← hA] <;> rfl
          rw [hs]
          clear hs hA
          refine region_heads 8 mixed (by decide) (by kernel_rfl) (by kernel_rfl) (by kernel_rfl) (by kernel_rfl) (frSm6 s) dSm6 (fun x => Below w10.heap.size w10 x) (GSm6 R b lo la lc) (fun i j hi hj h => dSm6_ne hi hj h) ?put s rfl S0 ?step ?done
          case put =>
            intro i o hi ho t v
            rcases (show i = 0 ∨ i = 1 ∨ i = 2 ∨ i = 3 ∨ i = 4 ∨ i = 5 ∨ i = 6 ∨ i = 7 by omega) with rfl | rfl | rfl | rfl | rfl | rfl | rfl | rfl
            all_goals
              obtain rfl := Option.some.inj ho
              rfl
          case step =>
            intro i o hi ho t x hS hdep K hK
            rcases (show i = 0 ∨ i = 1 ∨ i = 2 ∨ i = 3 ∨ i = 4 ∨ i = 5 ∨ i = 6 ∨ i = 7 by omega) with rfl | rfl | rfl | rfl | rfl | rfl | rfl | rfl
            all_goals obtain rfl := Option.some.inj ho
            · have h2 := hK (.pointer (some ⟨b, 0, none⟩)) x hS (fun j u hj hne h => h) rfl
              unfold frSm6 at h2 ⊢
              clear hK
              go_simp
              simpa [Act.put, s0_] using h2
            · have e0 : t 42 = .pointer (some ⟨b, 0, none⟩) := hdep { on := 0, ground := Ground.data } (by simp) rfl
              refine callG1 (by rfl) 80 (.tmp 42) _ rfl (.pointer (some ⟨b, 0, none⟩)) e0 (Go.Proofs.enters_of Tryz.func80 (by kernel_rfl) rfl _) (fun v y => (∃ (C : Nat) (T : List Mx) (p1 : Option Addr) (d1 : Nat), v = .slice p1 T.length d1 ∧ (lo ≤ C ∧ C ≤ y.heap.size ∧ MsOwn y C (.slice p1 T.length d1) T (sprL R))) ∧ Below x.heap.size x y) ((jS x hS).mono ?_) ?_
              · rintro e0 y0 ⟨u0, T0, h0, h1, h2⟩
                obtain ⟨q1, g1, rfl, _⟩ := h1.row.form
                exact ⟨_, h0, ⟨x.heap.size, T0, q1, g1, rfl, by rw [hlo]; exact hS.size, h2.size, h1⟩, h2⟩
              · rintro v y ⟨h0, hb2⟩
                exact hK v y (hS.trans (hb2.mono hS.size)) (fun j u hj hne h => GSm6.keep hb2 j u hj h) h0
            · have h2 := hK (.pointer (some ⟨b, 0, none⟩)) x hS (fun j u hj hne h => h) rfl
              unfold frSm6 at h2 ⊢
              clear hK
              go_simp
              simpa [Act.put, s0_] using h2
            · have e2 : t 44 = .pointer (some ⟨b, 0, none⟩) := hdep { on := 2, ground := Ground.data } (by simp) rfl
              have h2 := hK (.pointer (some ⟨b, 0, none⟩)) x hS (fun j u hj hne h => h) rfl
              unfold frSm6 at h2 ⊢
              clear hK
              go_simp
              simpa [Act.put, e2, s0_] using h2
            · have e3 : t 45 = .pointer (some ⟨b, 0, none⟩) := hdep { on := 3, ground := Ground.data } (by simp) rfl
              have h2 := hK (.pointer (some ⟨b, 5, none⟩)) x hS (fun j u hj hne h => h) rfl
              unfold frSm6 at h2 ⊢
              clear hK
              go_simp
              simpa [Act.put, e3, s0_] using h2
            · have e4 : t 46 = .pointer (some ⟨b, 5, none⟩) := hdep { on := 4, ground := Ground.data } (by simp) rfl
              have y0 := (CB x hS)
              have h2 := hK (.slice la R.l.length lc) x hS (fun j u hj hne h => h) rfl
              unfold frSm6 at h2 ⊢
              clear hK
              go_simp
              simpa [Act.put, e4, y0, s0_] using h2
            · have e5 : t 47 = .slice la R.l.length lc := hdep { on := 5, ground := Ground.data } (by simp) rfl
              have h2 := hK (.int .i64 (R.l.length : Int)) x hS (fun j u hj hne h => h) rfl
              unfold frSm6 at h2 ⊢
              clear hK
              go_simp
              simpa [Act.put, e5, s0_] using h2
            · obtain ⟨C_1, T_1, p1_1, d1_1, e1, k1⟩ : ∃ (C : Nat) (T : List Mx) (p1 : Option Addr) (d1 : Nat), t 43 = .slice p1 T.length d1 ∧ (lo ≤ C ∧ C ≤ x.heap.size ∧ MsOwn x C (.slice p1 T.length d1) T (sprL R)) := hdep { on := 1, ground := Ground.data } (by simp) rfl
              have h2 := hK (.slice p1_1 T_1.length d1_1) x hS (fun j u hj hne h => h) ⟨_, _, _, _, rfl, k1⟩
              unfold frSm6 at h2 ⊢
              clear hK
              go_simp
              simpa [Act.put, e1, s0_] using h2
          case done =>
            intro tt w11 hS hG
            obtain ⟨C, TT, p1, d1', e7, k2⟩ : ∃ (C : Nat) (T : List Mx) (p1 : Option Addr) (d1 : Nat), tt 4 = .slice p1 T.length d1 ∧ (lo ≤ C ∧ C ≤ w11.heap.size ∧ MsOwn w11 C (.slice p1 T.length d1) T (sprL R)) := hG 7 (by decide)
            have e6 : tt 48 = .int .i64 (R.l.length : Int) := hG 6 (by decide)
            rw [hlo] at k2
            have H11 : Hid (RpAt w11 B b ux R) := (show Hid _ from H10.out.kept hS)
            have B11 : Hid (Below B w w11) := (show Hid _ from B10.out.trans (hS.mono H10.out.le))
            have UX : Hid (∀ v ∈ ux.rows, ∀ k, v.ownBlock = some k → k < C) := (show ∀ _ _, _ from fun v hv k hk => Nat.lt_of_lt_of_le (H10.out.under v hv k hk) k2.1)
            have LT : Hid (b < C ∧ w.heap.size ≤ C) := (show _ ∧ _ from ⟨Nat.lt_of_lt_of_le H10.out.lt k2.1, Nat.le_trans Z10.out k2.1⟩)
            have K2 : Hid (MsOwn w11 C (.slice p1 TT.length d1') TT (sprL R)) := (show Hid _ from k2.2.2)
            clear jS CB hG hS S0 hlo H10 B10 k2
            show wpList Tryz.prog _ _ [_] _ w11
            unfold frSm6
            simp only [e6, e7, s0_]
            clear e6 e7 s0_
            go_wp2
            refine bodyPost_ret (results_tmp2 (fn := Tryz.f70) (q := 4) (q2 := 5) rfl _ _ (.slice p1 TT.length d1') (.int .i64 (R.l.length : Int)) rfl rfl) rfl ?_
            rw [HE.out]
            have e9 : (R.l.length : Int) = ((r.l.length + 1 : Nat) : Int) := by rw [EL.out, E1.out]
            exact ⟨ux, _, TT, by rw [e9], ⟨H11.out, ⟨C, UX.out, LT.out.1, LT.out.2, K2.out⟩, B11.out⟩⟩
end Go.Proofs.YtdahfhkeeemdiaaGreat.Rl
namespace Go.Proofs.YtdahfhkeeemdiaaGreat.Rl
open Go.RowKit Go.Sort Go.Shelf Pg
set_option linter.unusedVariables false
set_option linter.unusedSimpArgs false

set_option maxRecDepth 100000 in
set_option maxHeartbeats 16000000 in
theorem implSubR (r : Rp) (u : Rv) (tx : ByteArray) (w : World) (h : RpGot w u r) (hf : Fit r) (ht : tx.size ≤ 1048576) : Calls Tryz.prog 19 #[rpA r u, .string tx] w fun e w' => SubAns r tx w e w' := by
  obtain ⟨la, lc, oa, oc, ca, cc, ta, tc, T, rfl⟩ := h.form
  obtain ⟨b, hb⟩ : ∃ b, b = w.heap.size := ⟨_, rfl⟩
  obtain ⟨w1, hw1⟩ : ∃ w1, w1 = (w.alloc (.cells #[.int .i64 r.id, .int .i64 r.p, .int .i64 r.v, .bool r.n, .int .i64 r.la, .slice la r.l.length lc, .int .i64 r.c, .slice oa r.ok.length oc, .slice ca r.ch.length cc, .slice ta r.te.length tc] 28)).alloc (.cells #[.int .i64 0, .int .i64 0, .int .i64 0, .bool false, .int .i64 0, .slice none 0 0, .int .i64 0, .slice none 0 0, .slice none 0 0, .slice none 0 0] 28) := ⟨_, rfl⟩
  have XB1 : Hid (Bx w1 b 28 #[.int .i64 r.id, .int .i64 r.p, .int .i64 r.v, .bool r.n, .int .i64 r.la, .slice la r.l.length lc, .int .i64 r.c, .slice oa r.ok.length oc, .slice ca r.ch.length cc, .slice ta r.te.length tc]) := (show Hid _ from by rw [hw1, hb]; exact (Bx.new _ _ _).alloc _)
  have ZB1 : Hid (Bx w1 (b + 1) 28 zR) := (show Hid _ from by rw [hw1, hb]; exact Bx.at _ _ (by simp))
  have B1 : Hid (Below b w w1) := (show Hid _ from by rw [hw1, hb]; exact ((Below.refl _ w).alloc (Nat.le_refl _) _).alloc (by simp) _)
  have S1 : Hid (w1.heap.size = b + 2) := (show _ = _ by rw [hw1, hb]; simp)
  have HB : Hid (b = w.heap.size) := hb
  have HG : Hid (RpGot w ⟨.slice la r.l.length lc, .slice oa r.ok.length oc, .slice ca r.ch.length cc, .slice ta r.te.length tc, T⟩ r) := h
  have HT : Hid (tx.size ≤ 1048576) := ht
  have jo := fun W hW => implRok r _ W (HG.out.kept hW) hf
  have jn := fun W hW (hr : RpOk r) => implNewRp r _ W (HG.out.kept hW) hf hr.few
  unfold rpA at *
  simp only at jo jn ⊢
  clear h hf ht
  go_enter Tryz.func19, Tryz.ntmps19
  go_upto_region 1 with fail
  rw [← hb, ← hw1]
  clear hw1 hb
  go_wp2_with (refine wpList_ldR rfl (.tmp 2) rfl b rfl XB1.out rfl ?_)
  refine (jo _ (by rw [← HB.out]; exact B1.out)).mono ?_
  rintro e w2 ⟨rfl, hb2⟩
  have hz2 : b + 2 ≤ w2.heap.size := by have := hb2.size; have := S1.out; omega
  replace hb2 : Below (b + 2) w1 w2 := hb2.mono (by have := S1.out; omega)
  have XB2 : Hid (Bx w2 b 28 #[.int .i64 r.id, .int .i64 r.p, .int .i64 r.v, .bool r.n, .int .i64 r.la, .slice la r.l.length lc, .int .i64 r.c, .slice oa r.ok.length oc, .slice ca r.ch.length cc, .slice ta r.te.length tc]) := (show Hid _ from Bx.low XB1.out hb2 (by omega))
  have ZB2 : Hid (Bx w2 (b + 1) 28 zR) := (show Hid _ from Bx.low ZB1.out hb2 (by omega))
  have B2 : Hid (Below b w w2) := (show Hid _ from B1.out.trans (hb2.mono (by omega)))
  have S2 : Hid (b + 2 ≤ w2.heap.size) := hz2
  clear hb2 hz2 jo XB1 ZB1 B1 S1
  cases hr : dB (RpOk r) with
  | false =>
    have HS : Hid (subA r tx = (noRp, [], -1)) := (show _ = _ by unfold subA; exact if_neg (dB_not hr))
    have hba : Hid (Below w2.heap.size w2 (w2.alloc (.cells #[] 30))) := (show Hid _ from (Below.refl _ w2).alloc (Nat.le_refl _) _)
    go_wp2_with (refine wpList_stR rfl rfl (.tmp 4) (.tmp 13) rfl (b + 1) zR rfl rfl (ZB2.out.alloc _) rfl rfl zR_one ?_; intro w9 hz9 hc9)
    have OM : MsOwn w9 w2.heap.size (.slice (some ⟨w2.heap.size, 0, none⟩) 0 0) [] [] := (MsOwn.born w2).off (fun k h1 h2 => hc9.block k h2 (by have := S2.out; omega))
    have B9 : Below b w w9 := hc9.below (B2.out.trans (hba.out.mono (by have := S2.out; omega))) (by have := S2.out; have := hba.out.size; omega) (fun k hk => by omega)
    have hrl := results_row3 (P := Tryz.prog) (fn := Tryz.f19) (p := 4) (q := 5) (q2 := 6) (ty := 28) rfl
    refine bodyPost_ret (v := .tuple #[.agg zR, .slice (some ⟨w2.heap.size, 0, none⟩) 0 0, .int .i64 (-1)]) (hrl _ _ (b + 1) 28 zR (0, 0) _ rfl _ _ rfl rfl hz9 Tryz.underlying28 rfl (by rw [Tryz.rszR]; rfl)) rfl ?_
    unfold SubAns
    rw [HS.out]
    exact ⟨rv0, _, [], rfl, RmAns.no (OM.low (by have := S2.out; have := HB.out; omega)) (by rw [← HB.out]; exact B9)⟩
  | true =>
    have HS : Hid (subA r tx = subF r tx) := (show _ = _ by unfold subA; exact if_pos (dB_is hr))
    have HR : Hid (RpOk r) := dB_is hr
    have jn2 := jn w2 (by rw [← HB.out]; exact B2.out) HR.out
    clear jn hr
    go_upto_region 4 with (first | (refine wpList_ldR rfl (.tmp 2) rfl b rfl XB2.out rfl ?_) | (go_at_call 50; refine jn2.mono ?_; rintro e w3 ⟨rfl, u3, h3, hl3, b3⟩))
    obtain ⟨gb, hgb⟩ : ∃ gb, gb = w2.heap.size := ⟨_, rfl⟩
    have H3 : Hid (RpAt w3 (b + 2) gb u3 r) := (show Hid _ from by rw [hgb]; exact h3.low S2.out)
    have HL3 : Hid (OwnsX w3 (b + 2) u3.l r.l) := (show Hid _ from hl3.low S2.out)
    have ZB3 : Hid (Bx w3 (b + 1) 28 zR) := (show Hid _ from Bx.low ZB2.out b3 (by have := S2.out; omega))
    have B3 : Hid (Below b w w3) := (show Hid _ from B2.out.trans (b3.mono (by have := S2.out; omega)))
    have S3 : Hid (b + 2 ≤ w3.heap.size) := (show _ ≤ _ by have := S2.out; have := b3.size; omega)
    rw [← hgb]
    clear h3 hl3 b3 jn2 hgb XB2 ZB2 B2
    have js := implSubM r u3 (b + 2) gb tx w3 H3.out HL3.out HR.out HT.out
    go_upto_region 5 with (first | (go_at_call 70; refine js.mono ?_; rintro e w4 ⟨u4, v4, T4, rfl, h4⟩))
    obtain ⟨h4, ⟨C, c1, c2, c3, c4⟩, b4⟩ := h4
    have H4 : Hid (RpAt w4 (b + 2) gb u4 (subF r tx).1) := h4
    have M4 : Hid (MsOwn w4 C v4 T4 (subF r tx).2.1) := c4
    have C4 : Hid (∀ x ∈ u4.rows, ∀ k, x.ownBlock = some k → k < C) := c1
    have D4 : Hid (w3.heap.size ≤ C) := c3
    have ZB4 : Hid (Bx w4 (b + 1) 28 zR) := (show Hid _ from Bx.low ZB3.out b4 (by omega))
    have B4 : Hid (Below b w w4) := (show Hid _ from B3.out.trans (b4.mono (by omega)))
    clear h4 b4 c1 c2 c3 c4 js H3 HL3 ZB3 B3
    generalize subF r tx = P at HS H4 M4 ⊢
    obtain ⟨R, L, z⟩ := P
    simp only at H4 M4 ⊢
    obtain ⟨va, vn, vc, rfl⟩ : ∃ va vn vc, v4 = .slice va vn vc := by obtain ⟨x, y, e, _⟩ := M4.out.row.form; exact ⟨x, _, y, e⟩
    go_wp2_with (first | (refine wpList_ldR rfl (.tmp 24) rfl gb rfl H4.out.c rfl ?_) | (refine wpList_stR rfl rfl (.tmp 4) (.tmp 25) rfl (b + 1) (rpC R u4) rfl rfl ZB4.out rfl rfl (rpC_one H4.out.got) ?_; intro w9 hz9 hc9))
    have hlt4 := H4.out.lt
    have hhb4 := H4.out.hb
    have hd4 := D4.out
    have hs3 := S3.out
    have OM : MsOwn w9 C (.slice va vn vc) T4 L := M4.out.off (fun k h1 h2 => hc9.block k h2 (by omega))
    have B9 : Below b w w9 := hc9.below B4.out (by omega) (fun k hk => by omega)
    have HH : RpHas w9 (b + 2) u4 R := H4.out.o.has.off (fun v hv k hk => hc9.block k (H4.out.under v hv k hk) (by have := H4.out.o.has.from v hv k hk; omega))
    have hrl := results_row3 (P := Tryz.prog) (fn := Tryz.f19) (p := 4) (q := 5) (q2 := 6) (ty := 28) rfl
    refine bodyPost_ret (v := .tuple #[.agg (rpC R u4), .slice va vn vc, .int .i64 z]) (hrl _ _ (b + 1) 28 _ (0, 0) _ rfl _ _ rfl rfl hz9 Tryz.underlying28 rfl (by rw [Tryz.rszR]; rfl)) rfl ?_
    unfold SubAns
    rw [HS.out]
    exact ⟨u4, _, T4, rfl, ⟨HH.low (by have := HB.out; omega), H4.out.apt, ⟨C, C4.out, by have := HB.out; omega, OM⟩, by rw [← HB.out]; exact B9⟩⟩
end Go.Proofs.YtdahfhkeeemdiaaGreat.Rl
namespace Go.Proofs.YtdahfhkeeemdiaaGreat.Rl
open Go.RowKit Go.Sort Pg
set_option linter.unusedVariables false
set_option linter.unusedSimpArgs false

theorem RmAns.open {R : Rp} {L : List Ms} {w w' : World} {u' : Rv} {v : Value} {T : List Mx} (h : RmAns R L w w' u' v T) : ∃ C, RpHas w' w.heap.size u' R ∧ RpAp u' ∧ (∀ x ∈ u'.rows, ∀ k, x.ownBlock = some k → k < C) ∧ (w.heap.size ≤ C ∧ C ≤ w'.heap.size) ∧ MsOwn w' C v T L ∧ Below w.heap.size w w' := by
  obtain ⟨C, c1, c2, c3⟩ := h.m
  refine ⟨min C w'.heap.size, h.h, h.a, fun x hx k hk => ?_, ?_, c3.low (Nat.min_le_left _ _), h.b⟩
  · have := c1 x hx k hk
    have := h.h.under x hx k hk
    omega
  · have := h.b.size
    omega
theorem SubAns.open {r : Rp} {t : ByteArray} {R : Rp} {L : List Ms} {z : Int} (hP : subA r t = (R, L, z)) {w w' : World} {e : Ending} (h : SubAns r t w e w') : ∃ pl0 ql0 po0 qo0 pc0 qc0 pt0 qt0 M0 v T C, e = .returned (.tuple #[.agg #[.int .i64 R.id, .int .i64 R.p, .int .i64 R.v, .bool R.n, .int .i64 R.la, .slice pl0 R.l.length ql0, .int .i64 R.c, .slice po0 R.ok.length qo0, .slice pc0 R.ch.length qc0, .slice pt0 R.te.length qt0], v, .int .i64 z]) ∧ RpHas w' w.heap.size ⟨.slice pl0 R.l.length ql0, .slice po0 R.ok.length qo0, .slice pc0 R.ch.length qc0, .slice pt0 R.te.length qt0, M0⟩ R ∧ RpAp ⟨.slice pl0 R.l.length ql0, .slice po0 R.ok.length qo0, .slice pc0 R.ch.length qc0, .slice pt0 R.te.length qt0, M0⟩ ∧ (∀ x ∈ Rv.rows ⟨.slice pl0 R.l.length ql0, .slice po0 R.ok.length qo0, .slice pc0 R.ch.length qc0, .slice pt0 R.te.length qt0, M0⟩, ∀ k, x.ownBlock = some k → k < C) ∧ (w.heap.size ≤ C ∧ C ≤ w'.heap.size) ∧ MsOwn w' C v T L ∧ Below w.heap.size w w' := by
  obtain ⟨u, v, T, h1, h2⟩ := h
  rw [hP] at h1 h2
  obtain ⟨a, b, c, d, e', f, g, i, M, rfl⟩ := h2.h.got.form
  obtain ⟨C, k⟩ := h2.open
  exact ⟨a, b, c, d, e', f, g, i, M, v, T, C, h1, k⟩
theorem sprL_few {r : Rp} (h : RpOk r) : Few (sprL r) := by
  have := sprA_few r h.fit.l.1
  have e : sprA r = sprL r := by unfold sprA; exact if_pos h
  rw [e] at this
  exact this
theorem few_nil : Few [] := ⟨by simp, fun m hm => nomatch hm⟩
theorem subA_fit (r : Rp) (t : ByteArray) : (Fit (subA r t).1 ∧ 1 + cR (subA r t).1 ≤ 40000000) ∧ Few (subA r t).2.1 := by
  by_cases h : RpOk r
  · have e : subA r t = subF r t := by unfold subA; exact if_pos h
    have hk := (sub_kp (t := t) h).1.ok
    rw [e]
    refine ⟨⟨hk.fit, ?_⟩, ?_⟩
    · have h1 := logB_sm hk.l
      have h2 := hk.te5
      have h3 := hk.ok5
      have h4 := hk.ch5
      have h5 := sum_le_mul ((subF r t).1.te.map fun m => m.l.length) 60 (fun x hx => by obtain ⟨m, hm, rfl⟩ := List.mem_map.1 hx; exact (h2.2 m hm).1)
      rw [List.length_map] at h5
      have h6 : (subF r t).1.te.length * 60 ≤ 5 * 60 := Nat.mul_le_mul_right _ h2.1
      unfold cR
      omega
    · revert hk
      unfold subF
      split
      · intro _; exact few_nil
      · intro hk; exact sprL_few hk
  · have e : subA r t = (noRp, [], -1) := by unfold subA; exact if_neg h
    rw [e]
    exact ⟨⟨noRp_fit.1, by decide⟩, few_nil⟩
/-- Where the marks of messages begin, behind a replica's. -/
theorem few_cTs {L : List Ms} (h : Few L) {T : List Mx} (i : T.map (·.m) = L) {s : Nat} (hs : s ≤ 40000000) : s + cT T ≤ 50000000 := by
  rw [cT_of i]
  have h1 := sum_few (L.map fun m => m.l.length) (fun x hx => by obtain ⟨m, hm, rfl⟩ := List.mem_map.1 hx; exact h.l m hm)
  rw [List.length_map] at h1
  have h2 := h.n
  have h3 : L.length * 1048576 ≤ 6 * 1048576 := Nat.mul_le_mul_right _ h2
  omega
def mkS (s : Nat) (T : List Mx) : Int := (s : Int) + (cT T : Int)
theorem mkS_nn (s : Nat) (T : List Mx) : ¬ mkS s T < 0 := by unfold mkS; omega
theorem markMsN {L : List Ms} (hL : Few L) {s : Nat} (hs1 : 1 ≤ s) (hs : s ≤ 40000000) {lo hi : Nat} {v : Value} {T : List Mx} (W : World) (h : MsF lo hi v T W) (i : T.map (·.m) = L) :
    Calls Tryz.prog 37 #[v, .int .i64 (s : Int)] W fun e w' => e = .returned (.int .i64 (mkS s T)) ∧ MsF lo hi v (mkTe s T) w' ∧ Chg lo hi W w' :=
  (markMsS s hs1 v T (few_cTs hL i hs) lo W h.row h.logs h.ap (hL.each i) (by have := hL.len i; omega)).mono fun e w' ⟨h1, h2, h3, h4⟩ => by
    refine ⟨h1, ⟨h2, h3, fun x hx => ?_, fun k hk => h.top k (by rw [mkTe_u] at hk; exact hk)⟩, h4.chg h.low⟩
    have hu : x.u ∈ (mkTe s T).map Mx.u := List.mem_map.2 ⟨x, hx, rfl⟩
    rw [mkTe_u] at hu
    obtain ⟨y, hy, e⟩ := List.mem_map.1 hu
    rw [← e]
    exact h.ap y hy
theorem heldMsN {L : List Ms} (hL : Few L) {s : Nat} (hs1 : 1 ≤ s) (hs : s ≤ 40000000) {lo hi : Nat} {v : Value} {T : List Mx} (W : World) (h : MsF lo hi v (mkTe s T) W) (i : T.map (·.m) = L) :
    Calls Tryz.prog 39 #[v, .int .i64 (s : Int)] W fun e w' => e = .returned (.int .i64 (mkS s T)) ∧ Below W.heap.size W w' :=
  heldMsS s hs1 v T (few_cTs hL i hs) W h.got (hL.each i) (by have := hL.len i; omega)
theorem kR_is (r : Rp) : kR r = ((1 + cR r : Nat) : Int) := by unfold kR; omega
end Go.Proofs.YtdahfhkeeemdiaaGreat.Rl

/-
  The program's heap of servers: Swap.
  The library's heap over the heap of servers: up.
-/
import Derived.Test.YtdbeoloonoodkaaDoorG21
import Derived.Test.YtdbeoloonoodkaaDoorG22
import Derived.Test.YtdbeoloonoodkaaDoorG05
namespace Go.Proofs.YtdbeoloonoodkaaDoor.Ih
open Go.RowKit Go.Sort Ow
set_option linter.unusedVariables false
set_option linter.unusedSimpArgs false
variable {H : Hw}

def frSw (s t : Nat → Value) : Act := { tmps := #[s 0, s 1, s 2, s 3, s 4, s 5, t 6, t 7, t 8, t 9, t 10, t 11, t 12, t 13, t 14, t 15, t 16, t 17, t 18, t 19, t 20, t 21, t 22, t 23, t 24, t 25, t 26, t 27, t 28, t 29, t 30, t 31], defers := [] }
def dSw (i : Nat) : Nat := if i = 0 then 6 else if i = 1 then 7 else if i = 2 then 8 else if i = 3 then 9 else if i = 4 then 10 else if i = 5 then 11 else if i = 6 then 12 else if i = 7 then 13 else if i = 8 then 14 else if i = 9 then 15 else if i = 10 then 16 else if i = 11 then 17 else if i = 12 then 18 else if i = 13 then 19 else if i = 14 then 20 else if i = 15 then 21 else if i = 16 then 22 else if i = 17 then 23 else if i = 18 then 24 else if i = 19 then 25 else if i = 20 then 26 else if i = 21 then 27 else if i = 22 then 28 else if i = 23 then 29 else if i = 24 then 30 else if i = 25 then 100000 else i + 500000
def GSw (b g N cap i j : Nat) (p q : Int) (i0 : Nat) (x : World) (v : Value) : Prop := match i0 with
  | 0 => v = .pointer (some ⟨b, 0, none⟩)
  | 1 => v = .pointer (some ⟨b, 0, none⟩)
  | 2 => v = .pointer (some ⟨b, 0, none⟩)
  | 3 => v = .slice (some ⟨g, 0, none⟩) N cap
  | 4 => v = .int .i64 (i : Int)
  | 5 => v = .pointer (some ⟨b, 0, none⟩)
  | 6 => v = .pointer (some ⟨b, 0, none⟩)
  | 7 => v = .pointer (some ⟨b, 0, none⟩)
  | 8 => v = .slice (some ⟨g, 0, none⟩) N cap
  | 9 => v = .int .i64 (j : Int)
  | 10 => v = .pointer (some ⟨b, 0, none⟩)
  | 11 => v = .pointer (some ⟨b, 0, none⟩)
  | 12 => v = .pointer (some ⟨b, 0, none⟩)
  | 13 => v = .slice (some ⟨g, 0, none⟩) N cap
  | 14 => v = .int .i64 (j : Int)
  | 15 => v = .pointer (some ⟨g, j, none⟩)
  | 16 => v = .int .i64 q
  | 17 => v = .pointer (some ⟨b, 0, none⟩)
  | 18 => v = .pointer (some ⟨b, 0, none⟩)
  | 19 => v = .pointer (some ⟨b, 0, none⟩)
  | 20 => v = .slice (some ⟨g, 0, none⟩) N cap
  | 21 => v = .int .i64 (i : Int)
  | 22 => v = .pointer (some ⟨g, i, none⟩)
  | 23 => v = .int .i64 p
  | 24 => v = .pointer (some ⟨g, i, none⟩)
  | 25 => True
  | _ => True
theorem GSw.keep (b g N cap i j : Nat) (p q : Int) {x y : World} (k : Nat) (v : Value) (h : GSw b g N cap i j p q k x v) : GSw b g N cap i j p q k y v := h
theorem dSw_ne {i j : Nat} (hi : i < 26) (hj : j < 26) (h : j ≠ i) : dSw j ≠ dSw i := by
  have k : ∀ i j : Fin 26, j.val ≠ i.val → dSw j.val ≠ dSw i.val := by decide
  exact k ⟨i, hi⟩ ⟨j, hj⟩ h
def SSw (w : World) (b g N cap i j : Nat) (p q : Int) (listed : Array Bool) (x : World) : Prop := x.cell? ⟨b, 0, none⟩ = some (.slice (some ⟨g, 0, none⟩) N cap) ∧ ((listed.getD 25 false = false → w = x) ∧ (listed.getD 25 false = true → x = w.setCell ⟨g, i, none⟩ (.int .i64 q)))
theorem SSw.upd {w : World} {b g N cap i j : Nat} {p q : Int} {listed : Array Bool} {x : World} (h : SSw w b g N cap i j p q listed x) {k : Nat} (h1 : k ≠ 25) : SSw w b g N cap i j p q (listed.setIfInBounds k true) x := by
  unfold SSw
  rw [getD_set_ne false h1]
  exact h
set_option maxRecDepth 100000 in
set_option maxHeartbeats 4000000 in
theorem implSwap (b g cap i j : Nat) (l : List Co) (B : Nat) (w : World) (h : HpB H w B b l (.slice (some ⟨g, 0, none⟩) l.length cap)) (hl : l.length ≤ 100) (hi : i < l.length) (hj : j < l.length) :
    Calls Tryd.prog 90 #[.pointer (some ⟨b, 0, none⟩), .int .i64 (i : Int), .int .i64 (j : Int)] w fun e w' => e = .returned (.tuple #[]) ∧ OwnsC8 w' B (.slice (some ⟨g, 0, none⟩) l.length cap) (swpC l i j) ∧ w.grownBy w' (some g) := by
  have a1 := ownsC_at h.o i hi
  have b1 := ownsC_at h.o j hj
  have hiN : (i : Int) < (l.length : Int) := by omega
  have hjN : (j : Int) < (l.length : Int) := by omega
  have f := h.o.free rfl
  have c0 := h.c
  have hne := h.ne g rfl
  have HS : Hid _ := swapE h.o hi hj
  have b2 : (w.setCell ⟨g, i, none⟩ (.int .i64 l[j].1)).cell? ⟨g, j, none⟩ = some (.int .i64 l[j].1) := by
    by_cases e : i = j
    · subst e
      simp [go_sem, a1]
    · have e2 : ¬ j = i := fun h => e h.symm
      simp [go_sem, b1, e, e2]
  have c1 : (w.setCell ⟨g, i, none⟩ (.int .i64 l[j].1)).cell? ⟨b, 0, none⟩ = some (.slice (some ⟨g, 0, none⟩) l.length cap) := by
    have e2 : ¬ g = b := hne
    have e3 : ¬ b = g := fun h => hne h.symm
    simp [go_sem, c0, e2, e3]
  have f2 : (w.setCell ⟨g, i, none⟩ (.int .i64 l[j].1)).frozen? ⟨g, j, none⟩ = false := by
    simp [go_sem, f]
  generalize l[i].1 = p at a1 HS
  generalize l[j].1 = q at b1 HS b2 c1 f2
  have fi := f i
  have gw : w.grownBy ((w.setCell ⟨g, i, none⟩ (.int .i64 q)).setCell ⟨g, j, none⟩ (.int .i64 p)) (some g) := swapG
  have gd : w.grownBy ((w.drew.setCell ⟨g, i, none⟩ (.int .i64 q)).setCell ⟨g, j, none⟩ (.int .i64 p)) (some g) := ⟨gw.os, gw.tape, gw.output, gw.size, gw.block⟩
  obtain ⟨wd, hwd⟩ : ∃ wd, w.drew = wd := ⟨_, rfl⟩
  rw [hwd] at gd
  have HG : Hid (w.grownBy ((wd.setCell ⟨g, i, none⟩ (.int .i64 q)).setCell ⟨g, j, none⟩ (.int .i64 p)) (some g)) := gd
  have HS2 : Hid (OwnsC8 ((wd.setCell ⟨g, i, none⟩ (.int .i64 q)).setCell ⟨g, j, none⟩ (.int .i64 p)) B (.slice (some ⟨g, 0, none⟩) l.length cap) (swpC l i j)) := by rw [← hwd]; exact HS.out
  replace a1 : wd.cell? ⟨g, i, none⟩ = some (.int .i64 p) := by rw [← hwd]; exact a1
  replace b1 : wd.cell? ⟨g, j, none⟩ = some (.int .i64 q) := by rw [← hwd]; exact b1
  replace c0 : wd.cell? ⟨b, 0, none⟩ = some (.slice (some ⟨g, 0, none⟩) l.length cap) := by rw [← hwd]; exact c0
  replace fi : wd.frozen? ⟨g, i, none⟩ = false := by rw [← hwd]; exact fi
  replace b2 : (wd.setCell ⟨g, i, none⟩ (.int .i64 q)).cell? ⟨g, j, none⟩ = some (.int .i64 q) := by rw [← hwd]; exact b2
  replace c1 : (wd.setCell ⟨g, i, none⟩ (.int .i64 q)).cell? ⟨b, 0, none⟩ = some (.slice (some ⟨g, 0, none⟩) l.length cap) := by rw [← hwd]; exact c1
  replace f2 : (wd.setCell ⟨g, i, none⟩ (.int .i64 q)).frozen? ⟨g, j, none⟩ = false := by rw [← hwd]; exact f2
  have HWD : Hid (w.drew = wd) := hwd
  clear HS gw gd hwd
  obtain ⟨N, hN⟩ : ∃ N, N = l.length := ⟨_, rfl⟩
  rw [← hN] at HS2 hiN hjN c0 c1 ⊢
  clear h hN f
  go_enter Tryd.func90, Tryd.ntmps90
  go_wp2_with fail
  generalize hA : Act.mk _ _ = A
  obtain ⟨s, hs, s0_, s1_, s2_⟩ : ∃ s : Nat → Value, A = frSw s s ∧ s 0 = .pointer (some ⟨b, 0, none⟩) ∧ s 1 = .int .i64 (i : Int) ∧ s 2 = .int .i64 (j : Int) := by
    refine ⟨fun i => A.tmps.getD i undef, ?_, ?_, ?_, ?_⟩ <;> rw [← hA] <;> rfl
  rw [hs]
  clear hs hA
  refine region_headsL 26 mixed (by decide) (by kernel_rfl) (by kernel_rfl) (by kernel_rfl) (by kernel_rfl) (frSw s) dSw (fun listed t x => SSw wd b g N cap i j p q listed x) (GSw b g N cap i j p q) (fun i j hi hj h => dSw_ne hi hj h) ?put s rfl ⟨by rw [HWD.out]; exact c0, fun _ => HWD.out.symm, fun h => by cases h⟩ ?step ?done
  case put =>
    intro k o hk ho t v
    rcases (show k = 0 ∨ k = 1 ∨ k = 2 ∨ k = 3 ∨ k = 4 ∨ k = 5 ∨ k = 6 ∨ k = 7 ∨ k = 8 ∨ k = 9 ∨ k = 10 ∨ k = 11 ∨ k = 12 ∨ k = 13 ∨ k = 14 ∨ k = 15 ∨ k = 16 ∨ k = 17 ∨ k = 18 ∨ k = 19 ∨ k = 20 ∨ k = 21 ∨ k = 22 ∨ k = 23 ∨ k = 24 ∨ k = 25 by omega) with rfl | rfl | rfl | rfl | rfl | rfl | rfl | rfl | rfl | rfl | rfl | rfl | rfl | rfl | rfl | rfl | rfl | rfl | rfl | rfl | rfl | rfl | rfl | rfl | rfl | rfl
    all_goals
      obtain rfl := Option.some.inj ho
      rfl
  case step =>
    intro k o hk ho listed hnl hcl hls t x hS hdep K hK
    have K0 : ∀ (j0 : Nat) (u : Value) (y : World), GSw b g N cap i j p q j0 x u → GSw b g N cap i j p q j0 y u := fun j0 u y h => h
    have cx := hS.1
    rcases (show k = 0 ∨ k = 1 ∨ k = 2 ∨ k = 3 ∨ k = 4 ∨ k = 5 ∨ k = 6 ∨ k = 7 ∨ k = 8 ∨ k = 9 ∨ k = 10 ∨ k = 11 ∨ k = 12 ∨ k = 13 ∨ k = 14 ∨ k = 15 ∨ k = 16 ∨ k = 17 ∨ k = 18 ∨ k = 19 ∨ k = 20 ∨ k = 21 ∨ k = 22 ∨ k = 23 ∨ k = 24 ∨ k = 25 by omega) with rfl | rfl | rfl | rfl | rfl | rfl | rfl | rfl | rfl | rfl | rfl | rfl | rfl | rfl | rfl | rfl | rfl | rfl | rfl | rfl | rfl | rfl | rfl | rfl | rfl | rfl
    all_goals obtain rfl := Option.some.inj ho
    · have HK : Hid (K ((frSw s t).put (some 6) (.pointer (some ⟨b, 0, none⟩))) x) := hK _ _ (hS.upd (by decide)) (fun j0 u hj0 hne0 h => h) rfl
      have h2 := HK.out
      unfold frSw at h2 ⊢
      clear HK hK
      go_simp
      simpa [Act.put, s0_, s1_, s2_] using h2
    · have e0 : t 6 = .pointer (some ⟨b, 0, none⟩) := hdep { on := 0, ground := Ground.data } (by simp) rfl
      have HK : Hid (K ((frSw s t).put (some 7) (.pointer (some ⟨b, 0, none⟩))) x) := hK _ _ (hS.upd (by decide)) (fun j0 u hj0 hne0 h => h) rfl
      have h2 := HK.out
      unfold frSw at h2 ⊢
      clear HK hK
      go_simp
      simpa [Act.put, s0_, s1_, s2_, e0] using h2
    · have e1 : t 7 = .pointer (some ⟨b, 0, none⟩) := hdep { on := 1, ground := Ground.data } (by simp) rfl
      have HK : Hid (K ((frSw s t).put (some 8) (.pointer (some ⟨b, 0, none⟩))) x) := hK _ _ (hS.upd (by decide)) (fun j0 u hj0 hne0 h => h) rfl
      have h2 := HK.out
      unfold frSw at h2 ⊢
      clear HK hK
      go_simp
      simpa [Act.put, s0_, s1_, s2_, e1] using h2
    · have e2 : t 8 = .pointer (some ⟨b, 0, none⟩) := hdep { on := 2, ground := Ground.data } (by simp) rfl
      have HK : Hid (K ((frSw s t).put (some 9) (.slice (some ⟨g, 0, none⟩) N cap)) x) := hK _ _ (hS.upd (by decide)) (fun j0 u hj0 hne0 h => h) rfl
      have h2 := HK.out
      unfold frSw at h2 ⊢
      clear HK hK
      go_simp
      simpa [Act.put, s0_, s1_, s2_, e2, cx] using h2
    · have HK : Hid (K ((frSw s t).put (some 10) (.int .i64 (i : Int))) x) := hK _ _ (hS.upd (by decide)) (fun j0 u hj0 hne0 h => h) rfl
      have h2 := HK.out
      unfold frSw at h2 ⊢
      clear HK hK
      go_simp
      simpa [Act.put, s0_, s1_, s2_] using h2
    · have HK : Hid (K ((frSw s t).put (some 11) (.pointer (some ⟨b, 0, none⟩))) x) := hK _ _ (hS.upd (by decide)) (fun j0 u hj0 hne0 h => h) rfl
      have h2 := HK.out
      unfold frSw at h2 ⊢
      clear HK hK
      go_simp
      simpa [Act.put, s0_, s1_, s2_] using h2
    · have e5 : t 11 = .pointer (some ⟨b, 0, none⟩) := hdep { on := 5, ground := Ground.data } (by simp) rfl
      have HK : Hid (K ((frSw s t).put (some 12) (.pointer (some ⟨b, 0, none⟩))) x) := hK _ _ (hS.upd (by decide)) (fun j0 u hj0 hne0 h => h) rfl
      have h2 := HK.out
      unfold frSw at h2 ⊢
      clear HK hK
      go_simp
      simpa [Act.put, s0_, s1_, s2_, e5] using h2
    · have e6 : t 12 = .pointer (some ⟨b, 0, none⟩) := hdep { on := 6, ground := Ground.data } (by simp) rfl
      have HK : Hid (K ((frSw s t).put (some 13) (.pointer (some ⟨b, 0, none⟩))) x) := hK _ _ (hS.upd (by decide)) (fun j0 u hj0 hne0 h => h) rfl
      have h2 := HK.out
      unfold frSw at h2 ⊢
      clear HK hK
      go_simp
      simpa [Act.put, s0_, s1_, s2_, e6] using h2
    · have e7 : t 13 = .pointer (some ⟨b, 0, none⟩) := hdep { on := 7, ground := Ground.data } (by simp) rfl
      have HK : Hid (K ((frSw s t).put (some 14) (.slice (some ⟨g, 0, none⟩) N cap)) x) := hK _ _ (hS.upd (by decide)) (fun j0 u hj0 hne0 h => h) rfl
      have h2 := HK.out
      unfold frSw at h2 ⊢
      clear HK hK
      go_simp
      simpa [Act.put, s0_, s1_, s2_, e7, cx] using h2
    · have HK : Hid (K ((frSw s t).put (some 15) (.int .i64 (j : Int))) x) := hK _ _ (hS.upd (by decide)) (fun j0 u hj0 hne0 h => h) rfl
      have h2 := HK.out
      unfold frSw at h2 ⊢
      clear HK hK
      go_simp
      simpa [Act.put, s0_, s1_, s2_] using h2
    · have HK : Hid (K ((frSw s t).put (some 16) (.pointer (some ⟨b, 0, none⟩))) x) := hK _ _ (hS.upd (by decide)) (fun j0 u hj0 hne0 h => h) rfl
      have h2 := HK.out
      unfold frSw at h2 ⊢
      clear HK hK
      go_simp
      simpa [Act.put, s0_, s1_, s2_] using h2
    · have e10 : t 16 = .pointer (some ⟨b, 0, none⟩) := hdep { on := 10, ground := Ground.data } (by simp) rfl
      have HK : Hid (K ((frSw s t).put (some 17) (.pointer (some ⟨b, 0, none⟩))) x) := hK _ _ (hS.upd (by decide)) (fun j0 u hj0 hne0 h => h) rfl
      have h2 := HK.out
      unfold frSw at h2 ⊢
      clear HK hK
      go_simp
      simpa [Act.put, s0_, s1_, s2_, e10] using h2
    · have e11 : t 17 = .pointer (some ⟨b, 0, none⟩) := hdep { on := 11, ground := Ground.data } (by simp) rfl
      have HK : Hid (K ((frSw s t).put (some 18) (.pointer (some ⟨b, 0, none⟩))) x) := hK _ _ (hS.upd (by decide)) (fun j0 u hj0 hne0 h => h) rfl
      have h2 := HK.out
      unfold frSw at h2 ⊢
      clear HK hK
      go_simp
      simpa [Act.put, s0_, s1_, s2_, e11] using h2
    · have e12 : t 18 = .pointer (some ⟨b, 0, none⟩) := hdep { on := 12, ground := Ground.data } (by simp) rfl
      have HK : Hid (K ((frSw s t).put (some 19) (.slice (some ⟨g, 0, none⟩) N cap)) x) := hK _ _ (hS.upd (by decide)) (fun j0 u hj0 hne0 h => h) rfl
      have h2 := HK.out
      unfold frSw at h2 ⊢
      clear HK hK
      go_simp
      simpa [Act.put, s0_, s1_, s2_, e12, cx] using h2
    · have HK : Hid (K ((frSw s t).put (some 20) (.int .i64 (j : Int))) x) := hK _ _ (hS.upd (by decide)) (fun j0 u hj0 hne0 h => h) rfl
      have h2 := HK.out
      unfold frSw at h2 ⊢
      clear HK hK
      go_simp
      simpa [Act.put, s0_, s1_, s2_] using h2
    · have e13 : t 19 = .slice (some ⟨g, 0, none⟩) N cap := hdep { on := 13, ground := Ground.data } (by simp) rfl
      have e14 : t 20 = .int .i64 (j : Int) := hdep { on := 14, ground := Ground.data } (by simp) rfl
      have h0i : ¬ (j : Int) < 0 := by omega
      have HK : Hid (K ((frSw s t).put (some 21) (.pointer (some ⟨g, j, none⟩))) x) := hK _ _ (hS.upd (by decide)) (fun j0 u hj0 hne0 h => h) rfl
      have h2 := HK.out
      unfold frSw at h2 ⊢
      clear HK hK
      go_simp
      simpa [Act.put, s0_, s1_, s2_, e13, e14, hjN, h0i] using h2
    · have e15 : t 21 = .pointer (some ⟨g, j, none⟩) := hdep { on := 15, ground := Ground.data } (by simp) rfl
      have hf : listed.getD 25 false = false := by
        cases hq : listed.getD 25 false with
        | false => rfl
        | true =>
          have := hcl 25 _ rfl hq { on := 16, ground := Ground.data } (by simp) rfl
          rw [hnl] at this
          cases this
      have hx := hS.2.1 hf
      subst hx
      have b3 : wd.cell? ⟨g, j, none⟩ = some (.int .i64 q) := b1
      have HK : Hid (K ((frSw s t).put (some 22) (.int .i64 q)) wd) := hK _ _ (hS.upd (by decide)) (fun j0 u hj0 hne0 h => h) rfl
      have h2 := HK.out
      unfold frSw at h2 ⊢
      clear HK hK
      go_simp
      simpa [Act.put, s0_, s1_, s2_, e15, b3] using h2
    · have HK : Hid (K ((frSw s t).put (some 23) (.pointer (some ⟨b, 0, none⟩))) x) := hK _ _ (hS.upd (by decide)) (fun j0 u hj0 hne0 h => h) rfl
      have h2 := HK.out
      unfold frSw at h2 ⊢
      clear HK hK
      go_simp
      simpa [Act.put, s0_, s1_, s2_] using h2
    · have e17 : t 23 = .pointer (some ⟨b, 0, none⟩) := hdep { on := 17, ground := Ground.data } (by simp) rfl
      have HK : Hid (K ((frSw s t).put (some 24) (.pointer (some ⟨b, 0, none⟩))) x) := hK _ _ (hS.upd (by decide)) (fun j0 u hj0 hne0 h => h) rfl
      have h2 := HK.out
      unfold frSw at h2 ⊢
      clear HK hK
      go_simp
      simpa [Act.put, s0_, s1_, s2_, e17] using h2
    · have e18 : t 24 = .pointer (some ⟨b, 0, none⟩) := hdep { on := 18, ground := Ground.data } (by simp) rfl
      have HK : Hid (K ((frSw s t).put (some 25) (.pointer (some ⟨b, 0, none⟩))) x) := hK _ _ (hS.upd (by decide)) (fun j0 u hj0 hne0 h => h) rfl
      have h2 := HK.out
      unfold frSw at h2 ⊢
      clear HK hK
      go_simp
      simpa [Act.put, s0_, s1_, s2_, e18] using h2
    · have e19 : t 25 = .pointer (some ⟨b, 0, none⟩) := hdep { on := 19, ground := Ground.data } (by simp) rfl
      have HK : Hid (K ((frSw s t).put (some 26) (.slice (some ⟨g, 0, none⟩) N cap)) x) := hK _ _ (hS.upd (by decide)) (fun j0 u hj0 hne0 h => h) rfl
      have h2 := HK.out
      unfold frSw at h2 ⊢
      clear HK hK
      go_simp
      simpa [Act.put, s0_, s1_, s2_, e19, cx] using h2
    · have HK : Hid (K ((frSw s t).put (some 27) (.int .i64 (i : Int))) x) := hK _ _ (hS.upd (by decide)) (fun j0 u hj0 hne0 h => h) rfl
      have h2 := HK.out
      unfold frSw at h2 ⊢
      clear HK hK
      go_simp
      simpa [Act.put, s0_, s1_, s2_] using h2
    · have e20 : t 26 = .slice (some ⟨g, 0, none⟩) N cap := hdep { on := 20, ground := Ground.data } (by simp) rfl
      have e21 : t 27 = .int .i64 (i : Int) := hdep { on := 21, ground := Ground.data } (by simp) rfl
      have h0i : ¬ (i : Int) < 0 := by omega
      have HK : Hid (K ((frSw s t).put (some 28) (.pointer (some ⟨g, i, none⟩))) x) := hK _ _ (hS.upd (by decide)) (fun j0 u hj0 hne0 h => h) rfl
      have h2 := HK.out
      unfold frSw at h2 ⊢
      clear HK hK
      go_simp
      simpa [Act.put, s0_, s1_, s2_, e20, e21, hiN, h0i] using h2
    · have e22 : t 28 = .pointer (some ⟨g, i, none⟩) := hdep { on := 22, ground := Ground.data } (by simp) rfl
      have hf : listed.getD 25 false = false := by
        cases hq : listed.getD 25 false with
        | false => rfl
        | true =>
          have := hcl 25 _ rfl hq { on := 23, ground := Ground.phase } (by simp) rfl
          rw [hnl] at this
          cases this
      have hx := hS.2.1 hf
      subst hx
      have a3 : wd.cell? ⟨g, i, none⟩ = some (.int .i64 p) := a1
      have HK : Hid (K ((frSw s t).put (some 29) (.int .i64 p)) wd) := hK _ _ (hS.upd (by decide)) (fun j0 u hj0 hne0 h => h) rfl
      have h2 := HK.out
      unfold frSw at h2 ⊢
      clear HK hK
      go_simp
      simpa [Act.put, s0_, s1_, s2_, e22, a3] using h2
    · have e3 : t 9 = .slice (some ⟨g, 0, none⟩) N cap := hdep { on := 3, ground := Ground.data } (by simp) rfl
      have e4 : t 10 = .int .i64 (i : Int) := hdep { on := 4, ground := Ground.data } (by simp) rfl
      have h0i : ¬ (i : Int) < 0 := by omega
      have HK : Hid (K ((frSw s t).put (some 30) (.pointer (some ⟨g, i, none⟩))) x) := hK _ _ (hS.upd (by decide)) (fun j0 u hj0 hne0 h => h) rfl
      have h2 := HK.out
      unfold frSw at h2 ⊢
      clear HK hK
      go_simp
      simpa [Act.put, s0_, s1_, s2_, e3, e4, hiN, h0i] using h2
    · have e24 : t 30 = .pointer (some ⟨g, i, none⟩) := hdep { on := 24, ground := Ground.data } (by simp) rfl
      have e16 : t 22 = .int .i64 q := hdep { on := 16, ground := Ground.data } (by simp) rfl
      have hx := hS.2.1 hnl
      subst hx
      have HK : Hid (K ((frSw s t).put none undef) (wd.setCell ⟨g, i, none⟩ (.int .i64 q))) := hK _ _ ⟨c1, fun h => by
        have h9 : 25 < listed.size := by rw [hls]; decide
        simp [h9] at h, fun _ => rfl⟩ (fun j0 u hj0 hne0 h => h) trivial
      have a2 : wd.cell? ⟨g, i, none⟩ = some (.int .i64 p) := a1
      have f3 : wd.frozen? ⟨g, i, none⟩ = false := fi
      have h2 := HK.out
      unfold frSw at h2 ⊢
      clear HK hK
      go_simp
      simpa [Act.put, s0_, s1_, s2_, e24, e16, a2, f3] using h2
  case done =>
    intro listed t x hall hS hG
    have e8 : t 14 = .slice (some ⟨g, 0, none⟩) N cap := hG 8 (by decide)
    have e9 : t 15 = .int .i64 (j : Int) := hG 9 (by decide)
    have e23 : t 29 = .int .i64 p := hG 23 (by decide)
    have hx := hS.2.2 (hall 25 (by decide))
    subst hx
    clear hG hS hall
    show wpList Tryd.prog _ _ [_, _] _ _
    unfold frSw
    simp only [e8, e9, e23]
    clear e8 e9 e23 s0_ s1_ s2_ c1
    generalize wd.setCell ⟨g, i, none⟩ (.int .i64 q) = wx at b2 f2 HS2 HG ⊢
    go_wp2
    go_returns
    exact ⟨rfl, HS2.out, HG.out⟩
end Go.Proofs.YtdbeoloonoodkaaDoor.Ih
namespace Go.Proofs.YtdbeoloonoodkaaDoor.Ih
open Go.RowKit Go.Sort Ow
set_option linter.unusedVariables false
set_option linter.unusedSimpArgs false
variable {H : Hw}

abbrev hpI (b : Nat) : Value := .iface 52 (.pointer (some ⟨b, 0, none⟩))
theorem HpB.swapped {w w' : World} {B b g n cap : Nat} {l l' : List Co} (h : HpB H w B b l (.slice (some ⟨g, 0, none⟩) n cap)) (hg : w.grownBy w' (some g)) (ho : OwnsC8 w' B (.slice (some ⟨g, 0, none⟩) n cap) l') : HpB H w' B b l' (.slice (some ⟨g, 0, none⟩) n cap) :=
  h.grown hg (h.ne g rfl) (h.mv g rfl) (h.xv g rfl) ho
theorem quo2 {j : Nat} (h : 0 < j) : ((j : Int) - 1).tdiv 2 = (par j : Int) := by
  unfold par
  rw [Int.tdiv_eq_ediv_of_nonneg (by omega)]
  omega
theorem lessHp {b B g cap N i j : Nat} {l : List Co} {w : World} (h : HpB H w B b l (.slice (some ⟨g, 0, none⟩) N cap)) (hN : l.length = N) (hl : N ≤ 100) (hi : i < N) (hj : j < N) (hn : Nm H l) :
    ∃ L : Bool, (L = true ↔ aL l j < aL l i) ∧ Calls Tryd.prog 87 #[.pointer (some ⟨b, 0, none⟩), .int .i64 (i : Int), .int .i64 (j : Int)] w fun e w' => e = .returned (.bool L) ∧ Below w.heap.size w w' := by
  subst hN
  refine ⟨lessC l[i] l[j], ?_, implLess b g cap i j l B w h hn hl hi hj⟩
  rw [aL_at hi, aL_at hj]
  exact less_iff (hn.inn (List.getElem_mem _)) (hn.inn (List.getElem_mem _))
theorem swapHp {b B g cap N i j : Nat} {l : List Co} {w : World} (h : HpB H w B b l (.slice (some ⟨g, 0, none⟩) N cap)) (hN : l.length = N) (hl : N ≤ 100) (hi : i < N) (hj : j < N) :
    Calls Tryd.prog 90 #[.pointer (some ⟨b, 0, none⟩), .int .i64 (i : Int), .int .i64 (j : Int)] w fun e w' => e = .returned (.tuple #[]) ∧ HpB H w' B b (swpC l i j) (.slice (some ⟨g, 0, none⟩) N cap) ∧ Below B w w' := by
  subst hN
  refine (implSwap b g cap i j l B w h hl hi hj).mono ?_
  rintro e w' ⟨rfl, ho, hg⟩
  exact ⟨rfl, h.swapped hg ho, belowE (Below.refl B w) hg (by have := h.lo; have := h.hi; omega) (fun k hk => h.o.from k hk)⟩
theorem HpB.past {w w1 w2 : World} {B b : Nat} {l : List Co} {v : Value} (h : HpB H w1 B b l v) (hb : Below B w w1) (h2 : Below w1.heap.size w1 w2) : HpB H w2 B b l v ∧ Below B w w2 :=
  ⟨h.kept h2, hb.trans (h2.mono (by have := h.lo; have := h.hi; omega))⟩
set_option maxRecDepth 100000 in
set_option maxHeartbeats 4000000 in
theorem heapUp (b B g cap j0 : Nat) (l : List Co) (w : World) (h : HpB H w B b l (.slice (some ⟨g, 0, none⟩) l.length cap)) (hl : l.length ≤ 100) (hj : j0 < l.length) (hn : Nm H l) (hu : Up (aL l) l.length j0) :
    Calls Tryd.prog 54 #[hpI b, .int .i64 (j0 : Int)] w fun e w' => e = .returned (.tuple #[]) ∧ ∃ l', HpB H w' B b l' (.slice (some ⟨g, 0, none⟩) l.length cap) ∧ l'.Perm l ∧ Hp (aL l') l.length ∧ Below B w w' := by
  have HB0 : Hid (HpB H w B b l (.slice (some ⟨g, 0, none⟩) l.length cap)) := h
  have HN : Hid (Nm H l) := hn
  have HU : Hid (Up (aL l) l.length j0) := hu
  obtain ⟨N, hN⟩ : ∃ N, N = l.length := ⟨_, rfl⟩
  rw [← hN] at HB0 HU hl hj ⊢
  have HNN : Hid (N = l.length) := hN
  unfold hpI
  clear h hn hu hN
  go_enter Tryd.func54, Tryd.ntmps54
  go_wp2_with fail
  go_loopw [1] (fun jv wr => ∃ (j : Nat) (l' : List Co), jv = .int .i64 (j : Int) ∧ j < N ∧ Hid (HpB H wr B b l' (.slice (some ⟨g, 0, none⟩) N cap)) ∧ Hid (Up (aL l') N j) ∧ Hid (l'.Perm l) ∧ Hid (Below B w wr)) (fun jv _ => (intOf jv).toNat)
  case atStart => exact ⟨j0, l, rfl, hj, HB0, HU, (show Hid _ from List.Perm.refl _), (show Hid _ from Below.refl _ _)⟩
  case round =>
    obtain ⟨j, l', rfl, hjN, hp, hup, hpm, hb⟩ := hrel
    by_cases j0 : j = 0
    · subst j0
      have HH : Hid (Hp (aL l') N) := hup.out.exit (fun h => absurd h (by decide))
      go_wp2
      go_returns
      exact ⟨rfl, l', hp.out, hpm.out, HH.out, hb.out⟩
    · have hq := quo2 (j := j) (by omega)
      have hpj := par_lt (c := j) (by omega)
      have hpd : Hid (par j = par j) := rfl
      obtain ⟨i, hi⟩ : ∃ i, i = par j := ⟨_, rfl⟩
      rw [← hi] at hq hpj
      have HI : Hid (par j = i) := hi.symm
      have hlN : Hid (l'.length = N) := (show _ = _ from by rw [HNN.out]; exact hpm.out.length_eq)
      have hm := mthLess b
      obtain ⟨L, hL, hle⟩ := lessHp hp.out hlN.out hl hjN (show i < N by omega) (HN.out.perm hpm.out)
      have HL : Hid (L = true ↔ aL l' i < aL l' j) := hL
      have hij : ((i : Int) == (j : Int)) = false := by rw [beq_eq_false_iff_ne]; omega
      clear hi hL
      cases L with
      | false =>
        have HH : Hid (Hp (aL l') N) := hup.out.exit (fun _ => by
          rw [HI.out]
          have := mt HL.out.2 (by decide)
          omega)
        go_wp2_with (go_at_call 87; refine hle.mono ?_; rintro e w1 ⟨rfl, hq1⟩; have HQ : Hid (Below wr.heap.size wr w1) := hq1; clear hq1)
        go_returns
        exact ⟨rfl, l', (hp.out.past hb.out HQ.out).1, hpm.out, HH.out, (hp.out.past hb.out HQ.out).2⟩
      | true =>
        have HU2 : Hid (Up (aL (swpC l' i j)) N i) := hup.out.step HI.out (by omega) hjN (HL.out.1 rfl) (swpC_left (by rw [hlN.out]; omega) (by rw [hlN.out]; omega)) (swpC_right (by rw [hlN.out]; omega) (by rw [hlN.out]; omega)) (fun k h1 h2 => swpC_else h1 h2)
        have HM2 : Hid ((swpC l' i j).Perm l) := (swpC_perm (by rw [hlN.out]; omega) (by rw [hlN.out]; omega)).trans hpm.out
        go_wp2_with (first | (go_at_call 87; refine hle.mono ?_; rintro e w1 ⟨rfl, hq1⟩; have hp1 : Hid (HpB H w1 B b l' (.slice (some ⟨g, 0, none⟩) N cap)) := (hp.out.past hb.out hq1).1; have hb1 : Hid (Below B w w1) := (hp.out.past hb.out hq1).2; clear hp hb hm hle hq1; have hms := mthSwap b; have hsw := swapHp hp1.out hlN.out hl (show i < N by omega) hjN) | (go_at_call 90; refine hsw.mono ?_; rintro e w2 ⟨rfl, hp2, hb2⟩))
        go_roundw
        case rel => exact ⟨i, swpC l' i j, rfl, by omega, hp2, HU2, HM2, (show Hid _ from hb1.out.trans hb2)⟩
        case measure => simp [intOf]; omega
end Go.Proofs.YtdbeoloonoodkaaDoor.Ih

/-
  The program's Marked.
-/
import Derived.Test.YtdoolnaekmffbaaIkH
import Derived.Test.YtdoolnaekmffbaaRgX
namespace Go.Proofs.Ytdoolnaekmffbaa
open Go.RowKit Go.Sort Ow Sk
set_option linter.unusedVariables false
set_option linter.unusedSimpArgs false

theorem mrk_bth (n : Int) (l : List Int) (key : ByteArray) : bthQ n l n (mksV n key) = mrkQ n l ∧ bthL n l n (mksV n key) = mrkL n l key := by
  have hb : bthB n l n (mksV n key) = skOk n l := by
    unfold bthB
    cases h : skOk n l with
    | false => rfl
    | true =>
      have hs := skOk_iff.1 h
      have h2 : skOk n (mksV n key) = true := skOk_iff.2 ⟨hs.sz, mksV_in hs.sz key, by unfold mksV; split; exact mksL_ris n key 3; exact List.Pairwise.nil⟩
      rw [h2]
      simp
  unfold bthQ bthL mrkQ mrkL
  rw [hb]
  exact ⟨rfl, rfl⟩
def frMk (s t : Nat → Value) : Act := { tmps := #[s 0, s 1, s 2, s 3, s 4, t 5, s 6, t 7, t 8, t 9, t 10, t 11, t 12, t 13, t 14, t 15, t 16, t 17, t 18, s 19], defers := [] }
def dMk (i : Nat) : Nat := if i = 0 then 8 else if i = 1 then 9 else if i = 2 then 10 else if i = 3 then 11 else if i = 4 then 12 else if i = 5 then 13 else if i = 6 then 14 else if i = 7 then 15 else if i = 8 then 16 else if i = 9 then 7 else if i = 10 then 17 else if i = 11 then 18 else if i = 12 then 5 else if i = 13 then 100000 else i + 5000
def GMk (w : World) (lo : Nat) (n : Int) (key : ByteArray) (a : Option Addr) (cap : Nat) (l M : List Int) (Q : Int) (R : List Int) (bb : Bool) (i : Nat) (x : World) (v : Value) : Prop := match i with
  | 0 => v = .agg #[.int .i64 n, .slice a l.length cap]
  | 1 => v = .pointer (some ⟨w.heap.size, 0, none⟩)
  | 2 => v = .int .i64 n
  | 3 => v = .pointer (some ⟨w.heap.size, 0, none⟩)
  | 4 => v = .int .i64 n
  | 5 => v = .string key
  | 6 => ∃ (p1 : Option Addr) (d1 : Nat), v = .slice p1 M.length d1 ∧ HasN x lo (.slice p1 M.length d1) M
  | 7 => ∃ (p1 : Option Addr) (d1 : Nat), v = .agg #[.int .i64 n, .slice p1 M.length d1] ∧ HasN x lo (.slice p1 M.length d1) M
  | 8 => ∃ (p1 : Option Addr) (d1 : Nat), v = .tuple #[.agg #[.int .i64 Q, .slice p1 R.length d1], .bool bb] ∧ HasN x lo (.slice p1 R.length d1) R
  | 9 => ∃ (p1 : Option Addr) (d1 : Nat), v = .tuple #[.agg #[.int .i64 Q, .slice p1 R.length d1], .bool bb] ∧ HasN x lo (.slice p1 R.length d1) R
  | 10 => ∃ (p1 : Option Addr) (d1 : Nat), v = .agg #[.int .i64 Q, .slice p1 R.length d1] ∧ HasN x lo (.slice p1 R.length d1) R
  | 11 => v = .bool bb
  | 12 => ∃ gb, v = .pointer (some ⟨gb, 0, none⟩) ∧ BoxK 26 2 lo x gb
  | 13 => True
  | _ => True
theorem GMk.keep {w : World} {lo : Nat} {n : Int} {key : ByteArray} {a : Option Addr} {cap : Nat} {l M : List Int} {Q : Int} {R : List Int} {bb : Bool} {x y : World} (hb : Kx 26 lo x y) (j : Nat) (v : Value) (hj : j < 14) (h : GMk w lo n key a cap l M Q R bb j x v) : GMk w lo n key a cap l M Q R bb j y v := by
  rcases (show j = 0 ∨ j = 1 ∨ j = 2 ∨ j = 3 ∨ j = 4 ∨ j = 5 ∨ j = 6 ∨ j = 7 ∨ j = 8 ∨ j = 9 ∨ j = 10 ∨ j = 11 ∨ j = 12 ∨ j = 13 by omega) with rfl | rfl | rfl | rfl | rfl | rfl | rfl | rfl | rfl | rfl | rfl | rfl | rfl | rfl
  · exact h
  · exact h
  · exact h
  · exact h
  · exact h
  · exact h
  · obtain ⟨p1, d1, h1, h2⟩ := h; exact ⟨p1, d1, h1, h2.kx hb (by decide)⟩
  · obtain ⟨p1, d1, h1, h2⟩ := h; exact ⟨p1, d1, h1, h2.kx hb (by decide)⟩
  · obtain ⟨p1, d1, h1, h2⟩ := h; exact ⟨p1, d1, h1, h2.kx hb (by decide)⟩
  · obtain ⟨p1, d1, h1, h2⟩ := h; exact ⟨p1, d1, h1, h2.kx hb (by decide)⟩
  · obtain ⟨p1, d1, h1, h2⟩ := h; exact ⟨p1, d1, h1, h2.kx hb (by decide)⟩
  · exact h
  · obtain ⟨gb, h1, h2⟩ := h; exact ⟨gb, h1, h2.kx hb⟩
  · exact h
theorem dMk_ne {i j : Nat} (hi : i < 14) (hj : j < 14) (h : j ≠ i) : dMk j ≠ dMk i := by
  rcases (show i = 0 ∨ i = 1 ∨ i = 2 ∨ i = 3 ∨ i = 4 ∨ i = 5 ∨ i = 6 ∨ i = 7 ∨ i = 8 ∨ i = 9 ∨ i = 10 ∨ i = 11 ∨ i = 12 ∨ i = 13 by omega) with rfl | rfl | rfl | rfl | rfl | rfl | rfl | rfl | rfl | rfl | rfl | rfl | rfl | rfl <;> rcases (show j = 0 ∨ j = 1 ∨ j = 2 ∨ j = 3 ∨ j = 4 ∨ j = 5 ∨ j = 6 ∨ j = 7 ∨ j = 8 ∨ j = 9 ∨ j = 10 ∨ j = 11 ∨ j = 12 ∨ j = 13 by omega) with rfl | rfl | rfl | rfl | rfl | rfl | rfl | rfl | rfl | rfl | rfl | rfl | rfl | rfl <;> first | (exact absurd rfl h) | decide
def SMk (wA : World) (Q : Int) (M : List Int) (listed : Array Bool) (t : Nat → Value) (x : World) : Prop := Below wA.heap.size wA x ∧ (listed.getD 13 false = true → ∃ (gb : Nat) (p1 : Option Addr) (d1 : Nat), t 5 = .pointer (some ⟨gb, 0, none⟩) ∧ wA.heap.size ≤ gb ∧ Bx x gb 26 #[.int .i64 Q, .slice p1 M.length d1] ∧ HasN x wA.heap.size (.slice p1 M.length d1) M)
theorem SMk.upd {wA : World} {Q : Int} {M : List Int} {listed : Array Bool} {t : Nat → Value} {x y : World} (h : SMk wA Q M listed t x) {i k : Nat} {v : Value} (h1 : i ≠ 13) (h2 : k ≠ 5) (hb : Below x.heap.size x y) : SMk wA Q M (listed.setIfInBounds i true) (updH t k v) y := by
  refine ⟨h.1.trans (hb.mono h.1.size), fun hl => ?_⟩
  rw [getD_set_ne false h1] at hl
  obtain ⟨gb, p1, d1, e, k1, k2, k3⟩ := h.2 hl
  exact ⟨gb, p1, d1, by rw [updH_other _ _ (Ne.symm h2)]; exact e, k1, k2.kept hb, k3.kept hb⟩
theorem SMk.new {wA : World} {Q : Int} {M : List Int} {listed : Array Bool} {t s : Nat → Value} {x y : World} (h : SMk wA Q M listed t x) {i : Nat} (h1 : i ≠ 13) (hl : listed.getD 13 false = false) (hb : Below x.heap.size x y) : SMk wA Q M (listed.setIfInBounds i true) s y :=
  ⟨h.1.trans (hb.mono h.1.size), fun h2 => by rw [getD_set_ne false h1, hl] at h2; cases h2⟩
set_option maxRecDepth 100000 in
set_option maxHeartbeats 8000000 in
theorem implMrk (n : Int) (v : Value) (l : List Int) (key : ByteArray) (w : World) (h : Sls intE w v l) (hk : key.size ≤ 1048576) :
    Calls Try.prog 12 #[skV n v, .string key] w fun e w' => ∃ u, e = .returned (skV (mrkQ n l) u) ∧ HasN w' w.heap.size u (mrkL n l key) ∧ Below w.heap.size w w' := by
  obtain ⟨a, cap, rfl, _⟩ := h.one
  have K0 : Hid (Kd w ((w.alloc (.cells #[.int .i64 n, .slice a l.length cap] 26)).alloc (.cells #[.int .i64 0, .slice none 0 0] 26)) n a cap l) := Kd.new w n a cap l h
  have hz0 : ((w.alloc (.cells #[.int .i64 n, .slice a l.length cap] 26)).alloc (.cells #[.int .i64 0, .slice none 0 0] 26)).heap.size = w.heap.size + 2 := by simp
  unfold skV at *
  clear h
  go_enter Try.func12, Try.ntmps12
  generalize hwA : (w.alloc (.cells #[.int .i64 n, .slice a l.length cap] 26)).alloc (.cells #[.int .i64 0, .slice none 0 0] 26) = wA at K0 hz0
  go_upto_region 1 with fail
  clear hwA
  have HQ : Hid (bthQ n l n (mksV n key) = mrkQ n l ∧ bthL n l n (mksV n key) = mrkL n l key) := mrk_bth n l key
  have hMk := fun W => implMks n key W hk
  have hBt := fun u W h1 h2 => implBth n (.slice a l.length cap) l n u (mksV n key) W h1 h2
  unfold skV at hBt
  generalize mksV n key = M at HQ hMk hBt
  generalize bthQ n l n M = Q at HQ hBt
  generalize bthL n l n M = R at HQ hBt
  generalize bthB n l n M = bb at hBt
  generalize hA : Act.mk _ _ = A
  obtain ⟨s, hs, s1, s2, s4⟩ : ∃ s : Nat → Value, A = frMk s (fun _ => undef) ∧ s 1 = .string key ∧ s 2 = .pointer (some ⟨w.heap.size, 0, none⟩) ∧ s 4 = .pointer (some ⟨w.heap.size + 1, 0, none⟩) := by
    refine ⟨fun i => A.tmps.getD i undef, ?_, ?_, ?_, ?_⟩ <;> rw [← hA] <;> rfl
  rw [hs]
  clear hA hs
  refine region_headsL 14 mixed (by decide) (by kernel_rfl) (by kernel_rfl) (by kernel_rfl) (by kernel_rfl) (frMk s) dMk (SMk wA Q R) (GMk w wA.heap.size n key a cap l M Q R bb) (fun i j hi hj h => dMk_ne hi hj h) ?put (fun _ => undef) rfl ⟨⟨rfl, rfl, rfl, Nat.le_refl _, fun _ _ => rfl⟩, fun h => by cases h⟩ ?step ?done
  case put =>
    intro i o hi ho t v
    rcases (show i = 0 ∨ i = 1 ∨ i = 2 ∨ i = 3 ∨ i = 4 ∨ i = 5 ∨ i = 6 ∨ i = 7 ∨ i = 8 ∨ i = 9 ∨ i = 10 ∨ i = 11 ∨ i = 12 ∨ i = 13 by omega) with rfl | rfl | rfl | rfl | rfl | rfl | rfl | rfl | rfl | rfl | rfl | rfl | rfl | rfl
    all_goals
      obtain rfl := Option.some.inj ho
      rfl
  case step =>
    intro i o hi ho listed hnl hcl hls t x hS hdep K hK
    rcases (show i = 0 ∨ i = 1 ∨ i = 2 ∨ i = 3 ∨ i = 4 ∨ i = 5 ∨ i = 6 ∨ i = 7 ∨ i = 8 ∨ i = 9 ∨ i = 10 ∨ i = 11 ∨ i = 12 ∨ i = 13 by omega) with rfl | rfl | rfl | rfl | rfl | rfl | rfl | rfl | rfl | rfl | rfl | rfl | rfl | rfl
    all_goals obtain rfl := Option.some.inj ho
    · have y0 := (K0.out.kept hS.1).sx.cell 0
      have y1 := (K0.out.kept hS.1).sx.cell 1
      have h2 := hK (.agg #[.int .i64 n, .slice a l.length cap]) x (hS.upd (by decide) (by decide) (Below.refl _ _)) (fun j u hj hne h => h) rfl
      unfold frMk at h2 ⊢
      clear hK
      go_simp
      simpa [Act.put, y0, y1, s1, s2, s4] using h2
    · have h2 := hK (.pointer (some ⟨w.heap.size, 0, none⟩)) x (hS.upd (by decide) (by decide) (Below.refl _ _)) (fun j u hj hne h => h) rfl
      unfold frMk at h2 ⊢
      clear hK
      go_simp
      simpa [Act.put, s1, s2, s4] using h2
    · have e1 : t 9 = .pointer (some ⟨w.heap.size, 0, none⟩) := hdep { on := 1, ground := Ground.data } (by simp) rfl
      have y0 := (K0.out.kept hS.1).sx.cell 0
      have h2 := hK (.int .i64 n) x (hS.upd (by decide) (by decide) (Below.refl _ _)) (fun j u hj hne h => h) rfl
      unfold frMk at h2 ⊢
      clear hK
      go_simp
      simpa [Act.put, e1, y0, s1, s2, s4] using h2
    · have h2 := hK (.pointer (some ⟨w.heap.size, 0, none⟩)) x (hS.upd (by decide) (by decide) (Below.refl _ _)) (fun j u hj hne h => h) rfl
      unfold frMk at h2 ⊢
      clear hK
      go_simp
      simpa [Act.put, s1, s2, s4] using h2
    · have e3 : t 11 = .pointer (some ⟨w.heap.size, 0, none⟩) := hdep { on := 3, ground := Ground.data } (by simp) rfl
      have y0 := (K0.out.kept hS.1).sx.cell 0
      have h2 := hK (.int .i64 n) x (hS.upd (by decide) (by decide) (Below.refl _ _)) (fun j u hj hne h => h) rfl
      unfold frMk at h2 ⊢
      clear hK
      go_simp
      simpa [Act.put, e3, y0, s1, s2, s4] using h2
    · have h2 := hK (.string key) x (hS.upd (by decide) (by decide) (Below.refl _ _)) (fun j u hj hne h => h) rfl
      unfold frMk at h2 ⊢
      clear hK
      go_simp
      simpa [Act.put, s1, s2, s4] using h2
    · have e4 : t 12 = .int .i64 n := hdep { on := 4, ground := Ground.data } (by simp) rfl
      have e5 : t 13 = .string key := hdep { on := 5, ground := Ground.data } (by simp) rfl
      refine callG2 (by rfl) 25 (.tmp 12) (.tmp 13) _ rfl (.int .i64 n) (.string key) e4 e5 (Go.Proofs.enters_of Try.func25 (by kernel_rfl) rfl _) (fun v y => GMk w wA.heap.size n key a cap l M Q R bb 6 y v ∧ Below x.heap.size x y) ((hMk x).mono ?_) ?_
      · rintro e y ⟨g, c, h0, h1, h2⟩
        exact ⟨_, h0, ⟨_, c, rfl, h1.low hS.1.size⟩, h2⟩
      · rintro v y ⟨h1, h2⟩
        exact hK v y (hS.upd (by decide) (by decide) h2) (fun j u hj hne h => GMk.keep (Kx.of h2) j u hj h) h1
    · have e2 : t 10 = .int .i64 n := hdep { on := 2, ground := Ground.data } (by simp) rfl
      obtain ⟨pk6, dk6, e6, k6⟩ : GMk w wA.heap.size n key a cap l M Q R bb 6 x (t 14) := hdep { on := 6, ground := Ground.data } (by simp) rfl
      have h2 := hK (.agg #[.int .i64 n, .slice pk6 M.length dk6]) x (hS.upd (by decide) (by decide) (Below.refl _ _)) (fun j u hj hne h => h) ⟨pk6, dk6, rfl, k6⟩
      unfold frMk at h2 ⊢
      clear hK
      go_simp
      simpa [Act.put, e2, e6, s1, s2, s4] using h2
    · have e0 : t 8 = .agg #[.int .i64 n, .slice a l.length cap] := hdep { on := 0, ground := Ground.data } (by simp) rfl
      obtain ⟨pk7, dk7, e7, k7⟩ : GMk w wA.heap.size n key a cap l M Q R bb 7 x (t 15) := hdep { on := 7, ground := Ground.data } (by simp) rfl
      refine callG2 (by rfl) 14 (.tmp 8) (.tmp 15) _ rfl (.agg #[.int .i64 n, .slice a l.length cap]) (.agg #[.int .i64 n, .slice pk7 M.length dk7]) e0 e7 (Go.Proofs.enters_of Try.func14 (by kernel_rfl) rfl _) (fun v y => GMk w wA.heap.size n key a cap l M Q R bb 8 y v ∧ Below x.heap.size x y) ((hBt _ x ((K0.out.kept hS.1).sl) k7.sls).mono ?_) ?_
      · rintro e y ⟨u, h0, h1, h2⟩
        obtain ⟨p1, d1, rfl, _⟩ := h1.form
        exact ⟨_, h0, ⟨p1, d1, rfl, h1.low hS.1.size⟩, h2⟩
      · rintro v y ⟨h1, h2⟩
        exact hK v y (hS.upd (by decide) (by decide) h2) (fun j u hj hne h => GMk.keep (Kx.of h2) j u hj h) h1
    · obtain ⟨pk8, dk8, e8, k8⟩ : GMk w wA.heap.size n key a cap l M Q R bb 8 x (t 16) := hdep { on := 8, ground := Ground.data } (by simp) rfl
      have h2 := hK (.tuple #[.agg #[.int .i64 Q, .slice pk8 R.length dk8], .bool bb]) x (hS.upd (by decide) (by decide) (Below.refl _ _)) (fun j u hj hne h => h) ⟨pk8, dk8, rfl, k8⟩
      unfold frMk at h2 ⊢
      clear hK
      go_simp
      simpa [Act.put, e8, s1, s2, s4] using h2
    · obtain ⟨pk9, dk9, e9, k9⟩ : GMk w wA.heap.size n key a cap l M Q R bb 9 x (t 7) := hdep { on := 9, ground := Ground.data } (by simp) rfl
      have h2 := hK (.agg #[.int .i64 Q, .slice pk9 R.length dk9]) x (hS.upd (by decide) (by decide) (Below.refl _ _)) (fun j u hj hne h => h) ⟨pk9, dk9, rfl, k9⟩
      unfold frMk at h2 ⊢
      clear hK
      go_simp
      simpa [Act.put, e9, s1, s2, s4] using h2
    · obtain ⟨pk9, dk9, e9, k9⟩ : GMk w wA.heap.size n key a cap l M Q R bb 9 x (t 7) := hdep { on := 9, ground := Ground.data } (by simp) rfl
      have h2 := hK (.bool bb) x (hS.upd (by decide) (by decide) (Below.refl _ _)) (fun j u hj hne h => h) rfl
      unfold frMk at h2 ⊢
      clear hK
      go_simp
      simpa [Act.put, e9, s1, s2, s4] using h2
    · have h13 : listed.getD 13 false = false := by
        cases hq : listed.getD 13 false with
        | false => rfl
        | true =>
          have := hcl 13 _ rfl hq { on := 12, ground := Ground.data } (by simp) rfl
          rw [hnl] at this
          cases this
      have h2 := (Below.refl x.heap.size x).alloc (Nat.le_refl _) (.cells #[.int .i64 0, .slice none 0 0] 26)
      have h3 := hK (.pointer (some ⟨x.heap.size, 0, none⟩)) (x.alloc (.cells #[.int .i64 0, .slice none 0 0] 26)) (hS.new (by decide) h13 h2) (fun j u hj hne h => GMk.keep (Kx.of h2) j u hj h) ⟨x.heap.size, rfl, hS.1.size, _, Bx.new x 26 _, rfl⟩
      unfold frMk at h3 ⊢
      clear hK
      go_simp
      simpa [Act.put, s1, s2, s4] using h3
    · obtain ⟨pk10, dk10, e10, k10⟩ : GMk w wA.heap.size n key a cap l M Q R bb 10 x (t 17) := hdep { on := 10, ground := Ground.data } (by simp) rfl
      obtain ⟨gb, e12, hX⟩ : GMk w wA.heap.size n key a cap l M Q R bb 12 x (t 5) := hdep { on := 12, ground := Ground.data } (by simp) rfl
      have hk1 := Kx.put hX 0 (.int .i64 Q)
      have hkp := hk1.trans (Kx.put (hX.kx hk1) 1 (.slice pk10 R.length dk10))
      have hS2 : SMk wA Q R (listed.setIfInBounds 13 true) (updH t (dMk 13) undef) ((x.setCell ⟨gb, 0, none⟩ (.int .i64 Q)).setCell ⟨gb, 1, none⟩ (.slice pk10 R.length dk10)) := ⟨(hS.1.setCell hX.1 _).setCell hX.1 _, fun _ => ⟨gb, pk10, dk10, by rw [updH_other _ _ (by decide)]; exact e12, hX.1, hX.put2 _ _, k10.kx hkp (by decide)⟩⟩
      have h2 := hK undef _ hS2 (fun j u hj hne h => GMk.keep hkp j u hj h) trivial
      obtain ⟨_, cc, hc1, hc2⟩ := hX
      obtain ⟨q0, q1, rfl⟩ : ∃ q0 q1, cc = #[q0, q1] := by
        obtain ⟨L⟩ := cc
        match L, hc2 with
        | [q0, q1], _ => exact ⟨q0, q1, rfl⟩
      have hc3 : Bx x gb 26 #[q0, q1] := hc1
      have z0 := hc3.cell 0
      have z1 := hc3.cell 1
      have zf : ∀ k, x.frozen? ⟨gb, k, none⟩ = false := fun k => hc3.free k
      unfold frMk at h2 ⊢
      clear hK
      go_simp
      simpa [Act.put, e10, e12, z0, z1, zf, s1, s2, s4] using h2
  case done =>
    intro listed t x hall hS hG
    have e11 : t 18 = .bool bb := hG 11 (by decide)
    obtain ⟨gb, p1, d1, e5, hgb, hX, hR⟩ := hS.2 (hall 13 (by decide))
    have K1 : Hid (Kd w x n a cap l) := (show Hid _ from K0.out.kept hS.1)
    have y0 := hX.cell 0
    have y1 := hX.cell 1
    have z0 := K1.out.rx.cell 0
    have z1 := K1.out.rx.cell 1
    have f0 := K1.out.rx.free 0
    have f1 := K1.out.rx.free 1
    have hlo := hR.from
    have HH : Hid (HasN ((x.setCell ⟨w.heap.size + 1, 0, none⟩ (.int .i64 Q)).setCell ⟨w.heap.size + 1, 1, none⟩ (.slice p1 R.length d1)) w.heap.size (.slice p1 R.length d1) R) := (show Hid _ from ((hR.other _ _ (fun k hk => by have := hlo k hk; show k ≠ w.heap.size + 1; omega)).other _ _ (fun k hk => by have := hlo k hk; show k ≠ w.heap.size + 1; omega)).low (by omega))
    have HB : Hid (Below w.heap.size w ((x.setCell ⟨w.heap.size + 1, 0, none⟩ (.int .i64 Q)).setCell ⟨w.heap.size + 1, 1, none⟩ (.slice p1 R.length d1))) := (show Hid _ from (K1.out.low.setCell (Nat.le_succ _) _).setCell (Nat.le_succ _) _)
    clear hG hS hall K1 hX hR hlo hBt hMk
    show wpList Try.prog _ _ [_] _ x
    unfold frMk
    simp only [e11, e5, s1, s2, s4]
    go_wp2
    refine bodyPost_ret (v := .agg #[.int .i64 Q, .slice p1 R.length d1]) (by simp [results, Try.results12, go_sem, z0, z1]) rfl ⟨_, by rw [← HQ.out.1], by rw [← HQ.out.2]; exact HH.out, HB.out⟩
end Go.Proofs.Ytdoolnaekmffbaa

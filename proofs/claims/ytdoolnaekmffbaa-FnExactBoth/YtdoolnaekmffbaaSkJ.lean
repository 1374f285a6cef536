/-
  The walk of FnExactBoth, given what the program's Both answers.
-/
import Derived.Test.YtdoolnaekmffbaaSkG
import Derived.Test.YtdoolnaekmffbaaRgB
import Derived.Shelf.Abstract
namespace Go.Proofs.Ytdoolnaekmffbaa
open Go.RowKit Go.Sort Ow Sk
set_option linter.unusedVariables false
set_option linter.unusedSimpArgs false

def frJa (s t : Nat → Value) : Act := { tmps := #[s 0, s 1, s 2, s 3, s 4, s 5, t 6, s 7, s 8, s 9, s 10, s 11, s 12, s 13, s 14, s 15, s 16, s 17, s 18, s 19, s 20, s 21, s 22, s 23, s 24, s 25, s 26, t 27, t 28, t 29, t 30, t 31, t 32, t 33, t 34, s 35, s 36, s 37, s 38, s 39, s 40, s 41, s 42, s 43, s 44, s 45, s 46, s 47, s 48, s 49, s 50, s 51, s 52, s 53, s 54, s 55, s 56, s 57, s 58, s 59, s 60, s 61, s 62, s 63, s 64, s 65, s 66, s 67, s 68, s 69, s 70, s 71, s 72, s 73, s 74, s 75, s 76, s 77, s 78, s 79, s 80, s 81, s 82, s 83, s 84, s 85, s 86, s 87, s 88, s 89, s 90, s 91, s 92, s 93, s 94, s 95, s 96, s 97, s 98, s 99, s 100, s 101, s 102, s 103, s 104, s 105, s 106, s 107, s 108, s 109, s 110, s 111, s 112, s 113, s 114, s 115, s 116, s 117, s 118], defers := [] }
def dJa (i : Nat) : Nat := if i = 0 then 28 else if i = 1 then 29 else if i = 2 then 30 else if i = 3 then 31 else if i = 4 then 32 else if i = 5 then 27 else if i = 6 then 33 else if i = 7 then 34 else if i = 8 then 6 else if i = 9 then 100000 else i + 500000
def GJa (n : Int) (a : Option Addr) (cap : Nat) (l : List Int) (n2 : Int) (b : Option Addr) (cap2 : Nat) (l2 : List Int) (Q : Int) (M : List Int) (bb : Bool) (lo : Nat) (i : Nat) (x : World) (v : Value) : Prop := match i with
  | 0 => v = .agg #[.int .i64 n, .slice a l.length cap]
  | 1 => ∃ (p1 : Option Addr) (d1 : Nat), v = .agg #[.int .i64 n, .slice p1 l.length d1] ∧ HasN x lo (.slice p1 l.length d1) l
  | 2 => v = .agg #[.int .i64 n2, .slice b l2.length cap2]
  | 3 => ∃ (p1 : Option Addr) (d1 : Nat), v = .agg #[.int .i64 n2, .slice p1 l2.length d1] ∧ HasN x lo (.slice p1 l2.length d1) l2
  | 4 => ∃ (p1 : Option Addr) (d1 : Nat), v = .tuple #[.agg #[.int .i64 Q, .slice p1 M.length d1], .bool bb] ∧ HasN x lo (.slice p1 M.length d1) M
  | 5 => ∃ (p1 : Option Addr) (d1 : Nat), v = .tuple #[.agg #[.int .i64 Q, .slice p1 M.length d1], .bool bb] ∧ HasN x lo (.slice p1 M.length d1) M
  | 6 => ∃ (p1 : Option Addr) (d1 : Nat), v = .agg #[.int .i64 Q, .slice p1 M.length d1] ∧ HasN x lo (.slice p1 M.length d1) M
  | 7 => v = .bool bb
  | 8 => ∃ gb, v = .pointer (some ⟨gb, 0, none⟩) ∧ BoxK 26 2 lo x gb
  | 9 => True
  | _ => True
theorem GJa.keep (n : Int) (a : Option Addr) (cap : Nat) (l : List Int) (n2 : Int) (b : Option Addr) (cap2 : Nat) (l2 : List Int) (Q : Int) (M : List Int) (bb : Bool) (lo : Nat) {x y : World} (hb : Kx 26 lo x y) (j : Nat) (v : Value) (hj : j < 10) (h : GJa n a cap l n2 b cap2 l2 Q M bb lo j x v) : GJa n a cap l n2 b cap2 l2 Q M bb lo j y v := by
  rcases (show j = 0 ∨ j = 1 ∨ j = 2 ∨ j = 3 ∨ j = 4 ∨ j = 5 ∨ j = 6 ∨ j = 7 ∨ j = 8 ∨ j = 9 by omega) with rfl | rfl | rfl | rfl | rfl | rfl | rfl | rfl | rfl | rfl
  · exact h
  · obtain ⟨p1, d1, h1, h2⟩ := h; exact ⟨p1, d1, h1, h2.kx hb (by decide)⟩
  · exact h
  · obtain ⟨p1, d1, h1, h2⟩ := h; exact ⟨p1, d1, h1, h2.kx hb (by decide)⟩
  · obtain ⟨p1, d1, h1, h2⟩ := h; exact ⟨p1, d1, h1, h2.kx hb (by decide)⟩
  · obtain ⟨p1, d1, h1, h2⟩ := h; exact ⟨p1, d1, h1, h2.kx hb (by decide)⟩
  · obtain ⟨p1, d1, h1, h2⟩ := h; exact ⟨p1, d1, h1, h2.kx hb (by decide)⟩
  · exact h
  · obtain ⟨gb, h1, h2⟩ := h; exact ⟨gb, h1, h2.kx hb⟩
  · trivial
theorem dJa_ne {i j : Nat} (hi : i < 10) (hj : j < 10) (h : j ≠ i) : dJa j ≠ dJa i := by
  rcases (show i = 0 ∨ i = 1 ∨ i = 2 ∨ i = 3 ∨ i = 4 ∨ i = 5 ∨ i = 6 ∨ i = 7 ∨ i = 8 ∨ i = 9 by omega) with rfl | rfl | rfl | rfl | rfl | rfl | rfl | rfl | rfl | rfl <;> rcases (show j = 0 ∨ j = 1 ∨ j = 2 ∨ j = 3 ∨ j = 4 ∨ j = 5 ∨ j = 6 ∨ j = 7 ∨ j = 8 ∨ j = 9 by omega) with rfl | rfl | rfl | rfl | rfl | rfl | rfl | rfl | rfl | rfl <;> first | (exact absurd rfl h) | decide
def SJa (w2 : World) (Q : Int) (M : List Int) (listed : Array Bool) (t : Nat → Value) (x : World) : Prop := Below w2.heap.size w2 x ∧ (listed.getD 9 false = true → ∃ (gb : Nat) (p1 : Option Addr) (d1 : Nat), t 6 = .pointer (some ⟨gb, 0, none⟩) ∧ w2.heap.size ≤ gb ∧ Bx x gb 26 #[.int .i64 Q, .slice p1 M.length d1] ∧ HasN x w2.heap.size (.slice p1 M.length d1) M)
theorem SJa.upd {w2 : World} {Q : Int} {M : List Int} {listed : Array Bool} {t : Nat → Value} {x y : World} (h : SJa w2 Q M listed t x) {i k : Nat} {v : Value} (h1 : i ≠ 9) (h2 : k ≠ 6) (hb : Below x.heap.size x y) : SJa w2 Q M (listed.setIfInBounds i true) (updH t k v) y := by
  refine ⟨h.1.trans (hb.mono h.1.size), fun hl => ?_⟩
  rw [getD_set_ne false h1] at hl
  obtain ⟨gb, p1, d1, e, k1, k2, k3⟩ := h.2 hl
  exact ⟨gb, p1, d1, by rw [updH_other _ _ (Ne.symm h2)]; exact e, k1, k2.kept hb, k3.kept hb⟩
theorem SJa.new {w2 : World} {Q : Int} {M : List Int} {listed : Array Bool} {t s : Nat → Value} {x y : World} (h : SJa w2 Q M listed t x) {i : Nat} (h1 : i ≠ 9) (hl : listed.getD 9 false = false) (hb : Below x.heap.size x y) : SJa w2 Q M (listed.setIfInBounds i true) s y :=
  ⟨h.1.trans (hb.mono h.1.size), fun h2 => by rw [getD_set_ne false h1, hl] at h2; cases h2⟩
def frJb (s t : Nat → Value) : Act := { tmps := #[s 0, s 1, s 2, s 3, s 4, s 5, s 6, s 7, s 8, s 9, s 10, s 11, s 12, s 13, s 14, t 15, s 16, s 17, s 18, s 19, s 20, s 21, s 22, s 23, s 24, s 25, s 26, s 27, s 28, s 29, s 30, s 31, s 32, s 33, s 34, s 35, s 36, s 37, s 38, s 39, s 40, s 41, s 42, s 43, s 44, s 45, s 46, s 47, s 48, s 49, s 50, s 51, s 52, s 53, s 54, s 55, s 56, s 57, s 58, s 59, s 60, s 61, s 62, s 63, s 64, s 65, s 66, s 67, s 68, s 69, s 70, s 71, s 72, s 73, s 74, s 75, s 76, s 77, s 78, s 79, s 80, s 81, s 82, s 83, s 84, s 85, s 86, s 87, s 88, s 89, s 90, s 91, s 92, s 93, t 94, t 95, t 96, t 97, t 98, t 99, t 100, t 101, s 102, s 103, s 104, s 105, s 106, s 107, s 108, s 109, s 110, s 111, s 112, s 113, s 114, s 115, s 116, s 117, s 118], defers := [] }
def dJb (i : Nat) : Nat := if i = 0 then 95 else if i = 1 then 96 else if i = 2 then 97 else if i = 3 then 98 else if i = 4 then 99 else if i = 5 then 94 else if i = 6 then 100 else if i = 7 then 101 else if i = 8 then 15 else if i = 9 then 100000 else i + 500000
def GJb (n : Int) (a : Option Addr) (cap : Nat) (l : List Int) (n2 : Int) (b : Option Addr) (cap2 : Nat) (l2 : List Int) (Q : Int) (M : List Int) (bb : Bool) (lo : Nat) (i : Nat) (x : World) (v : Value) : Prop := match i with
  | 0 => v = .agg #[.int .i64 n, .slice a l.length cap]
  | 1 => ∃ (p1 : Option Addr) (d1 : Nat), v = .agg #[.int .i64 n, .slice p1 l.length d1] ∧ HasN x lo (.slice p1 l.length d1) l
  | 2 => v = .agg #[.int .i64 n2, .slice b l2.length cap2]
  | 3 => ∃ (p1 : Option Addr) (d1 : Nat), v = .agg #[.int .i64 n2, .slice p1 l2.length d1] ∧ HasN x lo (.slice p1 l2.length d1) l2
  | 4 => ∃ (p1 : Option Addr) (d1 : Nat), v = .tuple #[.agg #[.int .i64 Q, .slice p1 M.length d1], .bool bb] ∧ HasN x lo (.slice p1 M.length d1) M
  | 5 => ∃ (p1 : Option Addr) (d1 : Nat), v = .tuple #[.agg #[.int .i64 Q, .slice p1 M.length d1], .bool bb] ∧ HasN x lo (.slice p1 M.length d1) M
  | 6 => ∃ (p1 : Option Addr) (d1 : Nat), v = .agg #[.int .i64 Q, .slice p1 M.length d1] ∧ HasN x lo (.slice p1 M.length d1) M
  | 7 => v = .bool bb
  | 8 => ∃ gb, v = .pointer (some ⟨gb, 0, none⟩) ∧ BoxK 26 2 lo x gb
  | 9 => True
  | _ => True
theorem GJb.keep (n : Int) (a : Option Addr) (cap : Nat) (l : List Int) (n2 : Int) (b : Option Addr) (cap2 : Nat) (l2 : List Int) (Q : Int) (M : List Int) (bb : Bool) (lo : Nat) {x y : World} (hb : Kx 26 lo x y) (j : Nat) (v : Value) (hj : j < 10) (h : GJb n a cap l n2 b cap2 l2 Q M bb lo j x v) : GJb n a cap l n2 b cap2 l2 Q M bb lo j y v := by
  rcases (show j = 0 ∨ j = 1 ∨ j = 2 ∨ j = 3 ∨ j = 4 ∨ j = 5 ∨ j = 6 ∨ j = 7 ∨ j = 8 ∨ j = 9 by omega) with rfl | rfl | rfl | rfl | rfl | rfl | rfl | rfl | rfl | rfl
  · exact h
  · obtain ⟨p1, d1, h1, h2⟩ := h; exact ⟨p1, d1, h1, h2.kx hb (by decide)⟩
  · exact h
  · obtain ⟨p1, d1, h1, h2⟩ := h; exact ⟨p1, d1, h1, h2.kx hb (by decide)⟩
  · obtain ⟨p1, d1, h1, h2⟩ := h; exact ⟨p1, d1, h1, h2.kx hb (by decide)⟩
  · obtain ⟨p1, d1, h1, h2⟩ := h; exact ⟨p1, d1, h1, h2.kx hb (by decide)⟩
  · obtain ⟨p1, d1, h1, h2⟩ := h; exact ⟨p1, d1, h1, h2.kx hb (by decide)⟩
  · exact h
  · obtain ⟨gb, h1, h2⟩ := h; exact ⟨gb, h1, h2.kx hb⟩
  · trivial
theorem dJb_ne {i j : Nat} (hi : i < 10) (hj : j < 10) (h : j ≠ i) : dJb j ≠ dJb i := by
  rcases (show i = 0 ∨ i = 1 ∨ i = 2 ∨ i = 3 ∨ i = 4 ∨ i = 5 ∨ i = 6 ∨ i = 7 ∨ i = 8 ∨ i = 9 by omega) with rfl | rfl | rfl | rfl | rfl | rfl | rfl | rfl | rfl | rfl <;> rcases (show j = 0 ∨ j = 1 ∨ j = 2 ∨ j = 3 ∨ j = 4 ∨ j = 5 ∨ j = 6 ∨ j = 7 ∨ j = 8 ∨ j = 9 by omega) with rfl | rfl | rfl | rfl | rfl | rfl | rfl | rfl | rfl | rfl <;> first | (exact absurd rfl h) | decide
def SJb (w2 : World) (Q : Int) (M : List Int) (listed : Array Bool) (t : Nat → Value) (x : World) : Prop := Below w2.heap.size w2 x ∧ (listed.getD 9 false = true → ∃ (gb : Nat) (p1 : Option Addr) (d1 : Nat), t 15 = .pointer (some ⟨gb, 0, none⟩) ∧ w2.heap.size ≤ gb ∧ Bx x gb 26 #[.int .i64 Q, .slice p1 M.length d1] ∧ HasN x w2.heap.size (.slice p1 M.length d1) M)
theorem SJb.upd {w2 : World} {Q : Int} {M : List Int} {listed : Array Bool} {t : Nat → Value} {x y : World} (h : SJb w2 Q M listed t x) {i k : Nat} {v : Value} (h1 : i ≠ 9) (h2 : k ≠ 15) (hb : Below x.heap.size x y) : SJb w2 Q M (listed.setIfInBounds i true) (updH t k v) y := by
  refine ⟨h.1.trans (hb.mono h.1.size), fun hl => ?_⟩
  rw [getD_set_ne false h1] at hl
  obtain ⟨gb, p1, d1, e, k1, k2, k3⟩ := h.2 hl
  exact ⟨gb, p1, d1, by rw [updH_other _ _ (Ne.symm h2)]; exact e, k1, k2.kept hb, k3.kept hb⟩
theorem SJb.new {w2 : World} {Q : Int} {M : List Int} {listed : Array Bool} {t s : Nat → Value} {x y : World} (h : SJb w2 Q M listed t x) {i : Nat} (h1 : i ≠ 9) (hl : listed.getD 9 false = false) (hb : Below x.heap.size x y) : SJb w2 Q M (listed.setIfInBounds i true) s y :=
  ⟨h.1.trans (hb.mono h.1.size), fun h2 => by rw [getD_set_ne false h1, hl] at h2; cases h2⟩
set_option maxRecDepth 100000 in
set_option maxHeartbeats 16000000 in
theorem walkBth (hi : ∀ (n : Int) (v : Value) (l : List Int) (n2 : Int) (v2 : Value) (l2 : List Int) (w : World), Sls intE w v l → l.length ≤ 1048576 → Sls intE w v2 l2 → l2.length ≤ 1048576 → Calls Try.prog 14 #[skV n v, skV n2 v2] w fun e w' => ∃ u, e = .returned (.tuple #[skV (bthQ n l n2 l2) u, .bool (bthB n l n2 l2)]) ∧ HasN w' w.heap.size u (bthL n l n2 l2) ∧ Below w.heap.size w w')
    (n : Int) (v : Value) (l : List Int) (n2 : Int) (v2 : Value) (l2 : List Int) (w : World) (h : Sls intE w v l) (h2 : Sls intE w v2 l2) :
    Calls Try.prog 9 #[skV n v, skV n2 v2] w fun e w' => e = .returned (.bool true) ∧ Below w.heap.size w w' := by
    obtain ⟨a, cap, hv, _⟩ := h.one
    obtain ⟨b, cap2, hv2, _⟩ := h2.one
    subst hv hv2
    have HI : Hid (Sls intE w (.slice a l.length cap) l) := h
    have HJ : Hid (Sls intE w (.slice b l2.length cap2) l2) := h2
    have hsz := fun W hW => szSk n (.slice a l.length cap) l 1048576 (by decide) (by decide) W hW
    have hVf := szU_fit (left := 1048576) (l := l) (by decide)
    have hsz2 := fun (V : Int) (h0 : 0 ≤ V) (h1 : V ≤ 1048576) W hW => szSk n2 (.slice b l2.length cap2) l2 V h0 h1 W hW
    have hVf2 := fun (V : Int) (h1 : V ≤ 1048576) => szU_fit (left := V) (l := l2) h1
    have hto := fun (hf : l.length ≤ 1048576) W hW => toSk n (.slice a l.length cap) l W hW hf
    have htp := fun (hf : l2.length ≤ 1048576) W hW => toSk n2 (.slice b l2.length cap2) l2 W hW hf
    have hel := fun (hf : l.length ≤ 1048576) u v W hu hv => (eqSk n u v l W hu hv hf).mono (fun e w' (h : _ ∧ Grew W w') => (⟨h.1, h.2.low⟩ : e = .returned (.bool true) ∧ Below W.heap.size W w'))
    have hep := fun (hf : l2.length ≤ 1048576) u v W hu hv => (eqSk n2 u v l2 W hu hv hf).mono (fun e w' (h : _ ∧ Grew W w') => (⟨h.1, h.2.low⟩ : e = .returned (.bool true) ∧ Below W.heap.size W w'))
    have hsp := fun u v W hW hV => specBth n u l n2 v l2 W hW hV
    have him := fun (hf : l.length ≤ 1048576) (hg : l2.length ≤ 1048576) u v W hW hV => hi n u l n2 v l2 W hW hf hV hg
    have hml := bthL_len n l n2 l2
    have hem := fun u v W hu hv => (eqSk (bthQ n l n2 l2) u v (bthL n l n2 l2) W hu hv hml).mono (fun e w' (h : _ ∧ Grew W w') => (⟨h.1, h.2.low⟩ : e = .returned (.bool true) ∧ Below W.heap.size W w'))
    have hkl := fun (hf : l.length ≤ 1048576) u B W hu => markSk 1 (by decide) n u l B W hu hf
    have hkp := fun (hf : l.length ≤ 1048576) (hg : l2.length ≤ 1048576) u B W hu => markSk (1 + l.length) (by omega) n2 u l2 B W hu hg
    have hkm := fun u B W hu => markSk 1 (by decide) (bthQ n l n2 l2) u (bthL n l n2 l2) B W hu hml
    have hhm := fun u W hu => heldSk 1 (by decide) (bthQ n l n2 l2) u (bthL n l n2 l2).length W hu hml
    generalize bthQ n l n2 l2 = Q at hsp him hem hkm hhm
    generalize bthL n l n2 l2 = M at hsp him hem hkm hhm hml
    generalize bthB n l n2 l2 = bb at hsp him
    have db : (bb != bb) = false := by simp
    simp only [Int.natCast_add] at hkp
    have hk0 : ¬ (((1 : Nat) : Int) + (l.length : Int) + (l2.length : Int)) < 0 := by omega
    generalize hkk : (((1 : Nat) : Int) + (l.length : Int)) = kk at hkl hkp hk0
    generalize hkq : kk + (l2.length : Int) = kq at hkp hk0
    generalize hmm : (((1 : Nat) : Int) + (M.length : Int)) = mm at hkm hhm
    have hm0 : ¬ mm < 0 := by omega
    have dmm : (mm != mm) = false := by simp
    unfold skV at *
    clear hi h h2 hmm hkk hkq
    have AA : Hid (Liv w.heap.size (w.heap.size + 1) (fun W => Bx W w.heap.size 44 #[.int .i64 n, .slice a l.length cap]) (w.alloc (.cells #[.int .i64 n, .slice a l.length cap] 44))) := (show Hid _ from Liv.box (Bx.new _ _ _))
    have BB : Hid (Below w.heap.size w (w.alloc (.cells #[.int .i64 n, .slice a l.length cap] 44))) := (Below.refl _ w).alloc (Nat.le_refl _) _
    have zA : (w.alloc (.cells #[.int .i64 n, .slice a l.length cap] 44)).heap.size = w.heap.size + 1 := by simp
    have hbA : Below (w.alloc (.cells #[.int .i64 n, .slice a l.length cap] 44)).heap.size (w.alloc (.cells #[.int .i64 n, .slice a l.length cap] 44)) ((w.alloc (.cells #[.int .i64 n, .slice a l.length cap] 44)).alloc (.cells #[.int .i64 n2, .slice b l2.length cap2] 44)) := (Below.refl _ _).alloc (Nat.le_refl _) _
    have hY := Bx.new (w.alloc (.cells #[.int .i64 n, .slice a l.length cap] 44)) 44 #[.int .i64 n2, .slice b l2.length cap2]
    rw [zA] at hY
    have AB : Hid (Liv (w.heap.size + 1) (w.heap.size + 1 + 1) (fun W => Bx W (w.heap.size + 1) 44 #[.int .i64 n2, .slice b l2.length cap2]) ((w.alloc (.cells #[.int .i64 n, .slice a l.length cap] 44)).alloc (.cells #[.int .i64 n2, .slice b l2.length cap2] 44))) := (show Hid _ from Liv.box hY)
    replace AA : Hid (Liv w.heap.size (w.heap.size + 1) (fun W => Bx W w.heap.size 44 #[.int .i64 n, .slice a l.length cap]) ((w.alloc (.cells #[.int .i64 n, .slice a l.length cap] 44)).alloc (.cells #[.int .i64 n2, .slice b l2.length cap2] 44))) := AA.out.kept hbA
    replace BB : Hid (Below w.heap.size w ((w.alloc (.cells #[.int .i64 n, .slice a l.length cap] 44)).alloc (.cells #[.int .i64 n2, .slice b l2.length cap2] 44))) := (show Hid _ from BB.out.trans (hbA.mono BB.out.size))
    have zB : ((w.alloc (.cells #[.int .i64 n, .slice a l.length cap] 44)).alloc (.cells #[.int .i64 n2, .slice b l2.length cap2] 44)).heap.size = w.heap.size + 1 + 1 := by simp
    clear hbA hY zA
    generalize hw1 : ((w.alloc (.cells #[.int .i64 n, .slice a l.length cap] 44)).alloc (.cells #[.int .i64 n2, .slice b l2.length cap2] 44)) = w1 at BB zB AA AB
    have Z1 : Hid (w1.heap.size = w.heap.size + 1 + 1) := zB
    clear zB
    go_enter Try.func9, Try.ntmps9
    have AA_0 := AA.out.now.cell 0
    have AA_1 := AA.out.now.cell 1
    have AB_0 := AB.out.now.cell 0
    have AB_1 := AB.out.now.cell 1
    go_wp2_with fail
    clear hw1
    clear AA_0 AA_1 AB_0 AB_1
    refine (hsz _ (HI.out.kept BB.out)).mono ?_
    rintro e w2 ⟨rfl, hb⟩
    replace AA : Hid (Liv w.heap.size (w.heap.size + 1) (fun W => Bx W w.heap.size 44 #[.int .i64 n, .slice a l.length cap]) w2) := AA.out.kept hb
    replace AB : Hid (Liv (w.heap.size + 1) (w.heap.size + 1 + 1) (fun W => Bx W (w.heap.size + 1) 44 #[.int .i64 n2, .slice b l2.length cap2]) w2) := AB.out.kept hb
    have Z2 : Hid (w1.heap.size ≤ w2.heap.size) := hb.size
    replace BB : Hid (Below w.heap.size w w2) := (show Hid _ from BB.out.trans (hb.mono BB.out.size))
    clear hb
    have AA_0 := AA.out.now.cell 0
    have AA_1 := AA.out.now.cell 1
    have AB_0 := AB.out.now.cell 0
    have AB_1 := AB.out.now.cell 1
    generalize szU 1048576 l = V at hVf ⊢
    by_cases hV : V < 0
    · go_wp2
      go_ret
      exact ⟨rfl, BB.out⟩
    obtain ⟨hf, hV1, hV0⟩ := hVf (by omega)
    replace hto := hto hf; replace him := him hf; replace hel := hel hf; replace hkl := hkl hf; replace hkp := hkp hf; replace hsz2 := hsz2 V hV0 hV1; replace hVf2 := hVf2 V hV1
    go_wp2_with fail
    clear AA_0 AA_1 AB_0 AB_1
    refine (hsz2 _ (HJ.out.kept BB.out)).mono ?_
    rintro e w3 ⟨rfl, hb⟩
    replace AA : Hid (Liv w.heap.size (w.heap.size + 1) (fun W => Bx W w.heap.size 44 #[.int .i64 n, .slice a l.length cap]) w3) := AA.out.kept hb
    replace AB : Hid (Liv (w.heap.size + 1) (w.heap.size + 1 + 1) (fun W => Bx W (w.heap.size + 1) 44 #[.int .i64 n2, .slice b l2.length cap2]) w3) := AB.out.kept hb
    have Z3 : Hid (w2.heap.size ≤ w3.heap.size) := hb.size
    replace BB : Hid (Below w.heap.size w w3) := (show Hid _ from BB.out.trans (hb.mono BB.out.size))
    clear hb
    have AA_0 := AA.out.now.cell 0
    have AA_1 := AA.out.now.cell 1
    have AB_0 := AB.out.now.cell 0
    have AB_1 := AB.out.now.cell 1
    generalize szU V l2 = V2 at hVf2 ⊢
    by_cases hVV : V2 < 0
    · go_wp2
      go_ret
      exact ⟨rfl, BB.out⟩
    obtain ⟨hg, _, _⟩ := hVf2 (by omega)
    replace htp := htp hg; replace him := him hg; replace hep := hep hg; replace hkp := hkp hg
    clear hsz hsz2 hVf hVf2
    go_wp2_with fail
    generalize hA : Act.mk _ _ = A
    obtain ⟨s, hs, s2_, s3_, s4_⟩ : ∃ s : Nat → Value, A = frJa s s ∧ s 2 = .pointer (some ⟨w.heap.size, 0, none⟩) ∧ s 3 = .pointer (some ⟨w.heap.size + 1, 0, none⟩) ∧ s 4 = .bool false := by
      refine ⟨fun i => A.tmps.getD i undef, ?_, ?_, ?_, ?_⟩ <;> rw [← hA] <;> rfl
    rw [hs]
    clear hs hA
    refine region_headsL 10 mixed (by decide) (by kernel_rfl) (by kernel_rfl) (by kernel_rfl) (by kernel_rfl) (frJa s) dJa (SJa w3 Q M) (GJa n a cap l n2 b cap2 l2 Q M bb w3.heap.size) (fun i j hi hj h => dJa_ne hi hj h) ?put s rfl ⟨⟨rfl, rfl, rfl, Nat.le_refl _, fun _ _ => rfl⟩, fun h => by cases h⟩ ?step ?done
    case put =>
      intro i o hi ho t v
      rcases (show i = 0 ∨ i = 1 ∨ i = 2 ∨ i = 3 ∨ i = 4 ∨ i = 5 ∨ i = 6 ∨ i = 7 ∨ i = 8 ∨ i = 9 by omega) with rfl | rfl | rfl | rfl | rfl | rfl | rfl | rfl | rfl | rfl
      all_goals
        obtain rfl := Option.some.inj ho
        rfl
    case step =>
      intro i o hi ho listed hnl hcl hls t x hS hdep K hK
      rcases (show i = 0 ∨ i = 1 ∨ i = 2 ∨ i = 3 ∨ i = 4 ∨ i = 5 ∨ i = 6 ∨ i = 7 ∨ i = 8 ∨ i = 9 by omega) with rfl | rfl | rfl | rfl | rfl | rfl | rfl | rfl | rfl | rfl
      all_goals obtain rfl := Option.some.inj ho
      · have y0 := (AA.out.kept hS.1).now.cell 0
        have y1 := (AA.out.kept hS.1).now.cell 1
        have HK : Hid (K ((frJa s t).put (some 28) (.agg #[.int .i64 n, .slice a l.length cap])) x) := hK _ _ (hS.upd (by decide) (by decide) (Below.refl _ _)) (fun j u hj hne h => h) rfl
        have h2 := HK.out
        unfold frJa at h2 ⊢
        clear HK hK
        go_simp
        simpa [Act.put, y0, y1, s2_, s3_, s4_] using h2
      · have e0 : t 28 = .agg #[.int .i64 n, .slice a l.length cap] := hdep { on := 0, ground := Ground.data } (by simp) rfl
        refine callG1 (by rfl) 31 (.tmp 28) _ rfl (.agg #[.int .i64 n, .slice a l.length cap]) e0 (Go.Proofs.enters_of Try.func31 (by kernel_rfl) rfl _) (fun v y => (∃ (p1 : Option Addr) (d1 : Nat), v = .agg #[.int .i64 n, .slice p1 l.length d1] ∧ HasN y w3.heap.size (.slice p1 l.length d1) l) ∧ Below x.heap.size x y) ((hto x (HI.out.kept (pastK BB.out hS.1))).mono ?_) ?_
        · rintro e y ⟨u2, h0, h1, h3⟩
          obtain ⟨p1, d1, rfl, _⟩ := h1.form
          exact ⟨_, h0, ⟨p1, d1, rfl, (h1.low hS.1.size).has⟩, h3⟩
        · rintro v y ⟨h1, h2⟩
          exact hK v y (hS.upd (by decide) (by decide) h2) (fun j u hj hne h => GJa.keep n a cap l n2 b cap2 l2 Q M bb w3.heap.size (Kx.of h2) j u hj h) h1
      · have y0 := (AB.out.kept hS.1).now.cell 0
        have y1 := (AB.out.kept hS.1).now.cell 1
        have HK : Hid (K ((frJa s t).put (some 30) (.agg #[.int .i64 n2, .slice b l2.length cap2])) x) := hK _ _ (hS.upd (by decide) (by decide) (Below.refl _ _)) (fun j u hj hne h => h) rfl
        have h2 := HK.out
        unfold frJa at h2 ⊢
        clear HK hK
        go_simp
        simpa [Act.put, y0, y1, s2_, s3_, s4_] using h2
      · have e2 : t 30 = .agg #[.int .i64 n2, .slice b l2.length cap2] := hdep { on := 2, ground := Ground.data } (by simp) rfl
        refine callG1 (by rfl) 31 (.tmp 30) _ rfl (.agg #[.int .i64 n2, .slice b l2.length cap2]) e2 (Go.Proofs.enters_of Try.func31 (by kernel_rfl) rfl _) (fun v y => (∃ (p1 : Option Addr) (d1 : Nat), v = .agg #[.int .i64 n2, .slice p1 l2.length d1] ∧ HasN y w3.heap.size (.slice p1 l2.length d1) l2) ∧ Below x.heap.size x y) ((htp x (HJ.out.kept (pastK BB.out hS.1))).mono ?_) ?_
        · rintro e y ⟨u2, h0, h1, h3⟩
          obtain ⟨p1, d1, rfl, _⟩ := h1.form
          exact ⟨_, h0, ⟨p1, d1, rfl, (h1.low hS.1.size).has⟩, h3⟩
        · rintro v y ⟨h1, h2⟩
          exact hK v y (hS.upd (by decide) (by decide) h2) (fun j u hj hne h => GJa.keep n a cap l n2 b cap2 l2 Q M bb w3.heap.size (Kx.of h2) j u hj h) h1
      · have e1 : ∃ (p1 : Option Addr) (d1 : Nat), t 29 = .agg #[.int .i64 n, .slice p1 l.length d1] ∧ HasN x w3.heap.size (.slice p1 l.length d1) l := hdep { on := 1, ground := Ground.data } (by simp) rfl
        obtain ⟨r1, f1, e1, k1⟩ := e1
        have e3 : ∃ (p1 : Option Addr) (d1 : Nat), t 31 = .agg #[.int .i64 n2, .slice p1 l2.length d1] ∧ HasN x w3.heap.size (.slice p1 l2.length d1) l2 := hdep { on := 3, ground := Ground.data } (by simp) rfl
        obtain ⟨r3, f3, e3, k3⟩ := e3
        refine callG2 (by rfl) 19 (.tmp 29) (.tmp 31) _ rfl (.agg #[.int .i64 n, .slice r1 l.length f1]) (.agg #[.int .i64 n2, .slice r3 l2.length f3]) e1 e3 (Go.Proofs.enters_of Try.func19 (by kernel_rfl) rfl _) (fun v y => (∃ (p1 : Option Addr) (d1 : Nat), v = .tuple #[.agg #[.int .i64 Q, .slice p1 M.length d1], .bool bb] ∧ HasN y w3.heap.size (.slice p1 M.length d1) M) ∧ Below x.heap.size x y) ((hsp _ _ x k1.sls k3.sls).mono ?_) ?_
        · rintro e y ⟨u2, h0, h1, h3⟩
          obtain ⟨p1, d1, rfl, _⟩ := h1.form
          exact ⟨_, h0, ⟨p1, d1, rfl, (h1.low hS.1.size).has⟩, h3⟩
        · rintro v y ⟨h1, h2⟩
          exact hK v y (hS.upd (by decide) (by decide) h2) (fun j u hj hne h => GJa.keep n a cap l n2 b cap2 l2 Q M bb w3.heap.size (Kx.of h2) j u hj h) h1
      · have e4 : ∃ (p1 : Option Addr) (d1 : Nat), t 32 = .tuple #[.agg #[.int .i64 Q, .slice p1 M.length d1], .bool bb] ∧ HasN x w3.heap.size (.slice p1 M.length d1) M := hdep { on := 4, ground := Ground.data } (by simp) rfl
        obtain ⟨p1, d1, e4, k4⟩ := e4
        have HK : Hid (K ((frJa s t).put (some 27) (.tuple #[.agg #[.int .i64 Q, .slice p1 M.length d1], .bool bb])) x) := hK _ _ (hS.upd (by decide) (by decide) (Below.refl _ _)) (fun j u hj hne h => h) ⟨p1, d1, rfl, k4⟩
        have h2 := HK.out
        unfold frJa at h2 ⊢
        clear HK hK
        go_simp
        simpa [Act.put, e4, s2_, s3_, s4_] using h2
      · have e5 : ∃ (p1 : Option Addr) (d1 : Nat), t 27 = .tuple #[.agg #[.int .i64 Q, .slice p1 M.length d1], .bool bb] ∧ HasN x w3.heap.size (.slice p1 M.length d1) M := hdep { on := 5, ground := Ground.data } (by simp) rfl
        obtain ⟨p1, d1, e5, k5⟩ := e5
        have HK : Hid (K ((frJa s t).put (some 33) (.agg #[.int .i64 Q, .slice p1 M.length d1])) x) := hK _ _ (hS.upd (by decide) (by decide) (Below.refl _ _)) (fun j u hj hne h => h) ⟨p1, d1, rfl, k5⟩
        have h2 := HK.out
        unfold frJa at h2 ⊢
        clear HK hK
        go_simp
        simpa [Act.put, e5, s2_, s3_, s4_] using h2
      · have e5 : ∃ (p1 : Option Addr) (d1 : Nat), t 27 = .tuple #[.agg #[.int .i64 Q, .slice p1 M.length d1], .bool bb] ∧ HasN x w3.heap.size (.slice p1 M.length d1) M := hdep { on := 5, ground := Ground.data } (by simp) rfl
        obtain ⟨p1, d1, e5, k5⟩ := e5
        have HK : Hid (K ((frJa s t).put (some 34) (.bool bb)) x) := hK _ _ (hS.upd (by decide) (by decide) (Below.refl _ _)) (fun j u hj hne h => h) rfl
        have h2 := HK.out
        unfold frJa at h2 ⊢
        clear HK hK
        go_simp
        simpa [Act.put, e5, s2_, s3_, s4_] using h2
      · have h9 : listed.getD 9 false = false := by
          cases hq : listed.getD 9 false with
          | false => rfl
          | true =>
            have := hcl 9 _ rfl hq { on := 8, ground := Ground.data } (by simp) rfl
            rw [hnl] at this
            cases this
        have hba := (Below.refl x.heap.size x).alloc (Nat.le_refl _) (.cells #[.int .i64 0, .slice none 0 0] 26)
        have HK : Hid (K ((frJa s t).put (some 6) (.pointer (some ⟨x.heap.size, 0, none⟩))) (x.alloc (.cells #[.int .i64 0, .slice none 0 0] 26))) := hK _ _ (hS.new (by decide) h9 hba) (fun j u hj hne h => GJa.keep n a cap l n2 b cap2 l2 Q M bb w3.heap.size (Kx.of hba) j u hj h) ⟨x.heap.size, rfl, hS.1.size, _, Bx.new x 26 _, rfl⟩
        have h2 := HK.out
        unfold frJa at h2 ⊢
        clear HK hK
        go_simp
        simpa [Act.put, s2_, s3_, s4_] using h2
      · have e6 : ∃ (p1 : Option Addr) (d1 : Nat), t 33 = .agg #[.int .i64 Q, .slice p1 M.length d1] ∧ HasN x w3.heap.size (.slice p1 M.length d1) M := hdep { on := 6, ground := Ground.data } (by simp) rfl
        obtain ⟨p1, d1, e6, k6⟩ := e6
        have e8 : ∃ gb, t 6 = .pointer (some ⟨gb, 0, none⟩) ∧ BoxK 26 2 w3.heap.size x gb := hdep { on := 8, ground := Ground.data } (by simp) rfl
        obtain ⟨gb, e8, hX⟩ := e8
        have hk1 := Kx.put hX 0 (.int .i64 Q)
        have hkp := hk1.trans (Kx.put (hX.kx hk1) 1 (.slice p1 M.length d1))
        have hS2 : SJa w3 Q M (listed.setIfInBounds 9 true) (updH t (dJa 9) undef) ((x.setCell ⟨gb, 0, none⟩ (.int .i64 Q)).setCell ⟨gb, 1, none⟩ (.slice p1 M.length d1)) := ⟨(hS.1.setCell hX.1 _).setCell hX.1 _, fun _ => ⟨gb, p1, d1, by rw [updH_other _ _ (by decide)]; exact e8, hX.1, hX.put2 _ _, k6.kx hkp (by decide)⟩⟩
        have HK : Hid (K ((frJa s t).put none undef) ((x.setCell ⟨gb, 0, none⟩ (.int .i64 Q)).setCell ⟨gb, 1, none⟩ (.slice p1 M.length d1))) := hK _ _ hS2 (fun j u hj hne h => GJa.keep n a cap l n2 b cap2 l2 Q M bb w3.heap.size hkp j u hj h) trivial
        obtain ⟨_, cc, hc1, hc2⟩ := hX
        obtain ⟨q0, q1, rfl⟩ : ∃ q0 q1, cc = #[q0, q1] := by
          obtain ⟨L⟩ := cc
          match L, hc2 with
          | [q0, q1], _ => exact ⟨q0, q1, rfl⟩
        have hc3 : Bx x gb 26 #[q0, q1] := hc1
        have z0 := hc3.cell 0
        have z1 := hc3.cell 1
        have zf : ∀ k, x.frozen? ⟨gb, k, none⟩ = false := fun k => hc3.free k
        have h2 := HK.out
        unfold frJa at h2 ⊢
        go_simp
        simpa [Act.put, e6, e8, z0, z1, zf, s2_, s3_, s4_] using h2
    case done =>
      intro listed t x hall hS hG
      have e7 : t 34 = .bool bb := hG 7 (by decide)
      obtain ⟨gbJa, p1Ja, d1Ja, e8, hgb, hX, hR⟩ := hS.2 (hall 9 (by decide))
      have hb := hS.1
      clear hG hS hall
      obtain ⟨w4, rfl⟩ : ∃ z, z = x := ⟨x, rfl⟩
      clear AA_0 AA_1 AB_0 AB_1
      replace AA : Hid (Liv w.heap.size (w.heap.size + 1) (fun W => Bx W w.heap.size 44 #[.int .i64 n, .slice a l.length cap]) w4) := AA.out.kept hb
      replace AB : Hid (Liv (w.heap.size + 1) (w.heap.size + 1 + 1) (fun W => Bx W (w.heap.size + 1) 44 #[.int .i64 n2, .slice b l2.length cap2]) w4) := AB.out.kept hb
      have Z4 : Hid (w3.heap.size ≤ w4.heap.size) := hb.size
      replace BB : Hid (Below w.heap.size w w4) := (show Hid _ from pastK BB.out hb)
      have W0 : Hid (Liv w3.heap.size w4.heap.size (fun W => Bx W gbJa 26 #[.int .i64 Q, .slice p1Ja M.length d1Ja]) w4) := (show Hid _ from (Liv.box hX).wide hgb hX.lt (Nat.le_refl _))
      have R : Hid (Liv w3.heap.size w4.heap.size (RowF intE 2 w3.heap.size w4.heap.size (.slice p1Ja M.length d1Ja) M) w4) := (show Hid _ from Liv.new hR)
      clear hb hX hR hgb
      show wpList Try.prog _ _ [_] _ w4
      unfold frJa
      simp only [e7, e8, s2_, s3_, s4_]
      clear e7 e8 s2_ s3_ s4_
      have AA_0 := AA.out.now.cell 0
      have AA_1 := AA.out.now.cell 1
      have AB_0 := AB.out.now.cell 0
      have AB_1 := AB.out.now.cell 1
      have W0_0 := W0.out.now.cell 0
      have W0_1 := W0.out.now.cell 1
      go_wp2_with fail
      clear AA_0 AA_1 AB_0 AB_1 W0_0 W0_1
      refine (hto _ (HI.out.kept BB.out)).mono ?_
      rintro e w5 ⟨u4, rfl, ho, hb⟩
      obtain ⟨a4, c4, rfl, _⟩ := ho.form
      replace AA : Hid (Liv w.heap.size (w.heap.size + 1) (fun W => Bx W w.heap.size 44 #[.int .i64 n, .slice a l.length cap]) w5) := AA.out.kept hb
      replace AB : Hid (Liv (w.heap.size + 1) (w.heap.size + 1 + 1) (fun W => Bx W (w.heap.size + 1) 44 #[.int .i64 n2, .slice b l2.length cap2]) w5) := AB.out.kept hb
      replace W0 : Hid (Liv w3.heap.size w4.heap.size (fun W => Bx W gbJa 26 #[.int .i64 Q, .slice p1Ja M.length d1Ja]) w5) := W0.out.kept hb
      replace R : Hid (Liv w3.heap.size w4.heap.size (RowF intE 2 w3.heap.size w4.heap.size (.slice p1Ja M.length d1Ja) M) w5) := R.out.kept hb
      have X : Hid (Liv w4.heap.size w5.heap.size (RowF intE 2 w4.heap.size w5.heap.size (.slice a4 l.length c4) l) w5) := (show Hid _ from Liv.new ho.has)
      have Z5 : Hid (w4.heap.size ≤ w5.heap.size) := hb.size
      replace BB : Hid (Below w.heap.size w w5) := (show Hid _ from BB.out.trans (hb.mono BB.out.size))
      clear hb ho
      have hbA : Below w5.heap.size w5 (w5.alloc (.cells #[.int .i64 n, .slice a4 l.length c4] 26)) := (Below.refl _ _).alloc (Nat.le_refl _) _
      have zA : (w5.alloc (.cells #[.int .i64 n, .slice a4 l.length c4] 26)).heap.size = w5.heap.size + 1 := by simp
      replace AA : Hid (Liv w.heap.size (w.heap.size + 1) (fun W => Bx W w.heap.size 44 #[.int .i64 n, .slice a l.length cap]) (w5.alloc (.cells #[.int .i64 n, .slice a4 l.length c4] 26))) := AA.out.kept hbA
      replace AB : Hid (Liv (w.heap.size + 1) (w.heap.size + 1 + 1) (fun W => Bx W (w.heap.size + 1) 44 #[.int .i64 n2, .slice b l2.length cap2]) (w5.alloc (.cells #[.int .i64 n, .slice a4 l.length c4] 26))) := AB.out.kept hbA
      replace W0 : Hid (Liv w3.heap.size w4.heap.size (fun W => Bx W gbJa 26 #[.int .i64 Q, .slice p1Ja M.length d1Ja]) (w5.alloc (.cells #[.int .i64 n, .slice a4 l.length c4] 26))) := W0.out.kept hbA
      replace R : Hid (Liv w3.heap.size w4.heap.size (RowF intE 2 w3.heap.size w4.heap.size (.slice p1Ja M.length d1Ja) M) (w5.alloc (.cells #[.int .i64 n, .slice a4 l.length c4] 26))) := R.out.kept hbA
      replace X : Hid (Liv w4.heap.size w5.heap.size (RowF intE 2 w4.heap.size w5.heap.size (.slice a4 l.length c4) l) (w5.alloc (.cells #[.int .i64 n, .slice a4 l.length c4] 26))) := X.out.kept hbA
      replace BB : Hid (Below w.heap.size w (w5.alloc (.cells #[.int .i64 n, .slice a4 l.length c4] 26))) := (show Hid _ from BB.out.trans (hbA.mono BB.out.size))
      have X0 : Hid (Liv w5.heap.size (w5.heap.size + 1) (fun W => Bx W (w5.heap.size) 26 #[.int .i64 n, .slice a4 l.length c4]) (w5.alloc (.cells #[.int .i64 n, .slice a4 l.length c4] 26))) := (show Hid _ from Liv.box (Bx.new _ _ _))
      clear hbA
      generalize hww6 : (w5.alloc (.cells #[.int .i64 n, .slice a4 l.length c4] 26)) = w6 at BB zA AA AB W0 R X X0
      have Z6 : Hid (w6.heap.size = w5.heap.size + 1) := zA
      clear zA
      have AA_0 := AA.out.now.cell 0
      have AA_1 := AA.out.now.cell 1
      have AB_0 := AB.out.now.cell 0
      have AB_1 := AB.out.now.cell 1
      have W0_0 := W0.out.now.cell 0
      have W0_1 := W0.out.now.cell 1
      have X0_0 := X0.out.now.cell 0
      have X0_1 := X0.out.now.cell 1
      go_wp2_with fail
      clear hww6
      clear AA_0 AA_1 AB_0 AB_1 W0_0 W0_1 X0_0 X0_1
      refine (htp _ (HJ.out.kept BB.out)).mono ?_
      rintro e w7 ⟨u5, rfl, ho, hb⟩
      obtain ⟨a5, c5, rfl, _⟩ := ho.form
      replace AA : Hid (Liv w.heap.size (w.heap.size + 1) (fun W => Bx W w.heap.size 44 #[.int .i64 n, .slice a l.length cap]) w7) := AA.out.kept hb
      replace AB : Hid (Liv (w.heap.size + 1) (w.heap.size + 1 + 1) (fun W => Bx W (w.heap.size + 1) 44 #[.int .i64 n2, .slice b l2.length cap2]) w7) := AB.out.kept hb
      replace W0 : Hid (Liv w3.heap.size w4.heap.size (fun W => Bx W gbJa 26 #[.int .i64 Q, .slice p1Ja M.length d1Ja]) w7) := W0.out.kept hb
      replace R : Hid (Liv w3.heap.size w4.heap.size (RowF intE 2 w3.heap.size w4.heap.size (.slice p1Ja M.length d1Ja) M) w7) := R.out.kept hb
      replace X : Hid (Liv w4.heap.size w5.heap.size (RowF intE 2 w4.heap.size w5.heap.size (.slice a4 l.length c4) l) w7) := X.out.kept hb
      replace X0 : Hid (Liv w5.heap.size (w5.heap.size + 1) (fun W => Bx W (w5.heap.size) 26 #[.int .i64 n, .slice a4 l.length c4]) w7) := X0.out.kept hb
      have Y : Hid (Liv w6.heap.size w7.heap.size (RowF intE 2 w6.heap.size w7.heap.size (.slice a5 l2.length c5) l2) w7) := (show Hid _ from Liv.new ho.has)
      have Z7 : Hid (w6.heap.size ≤ w7.heap.size) := hb.size
      replace BB : Hid (Below w.heap.size w w7) := (show Hid _ from BB.out.trans (hb.mono BB.out.size))
      clear hb ho
      have hbA : Below w7.heap.size w7 (w7.alloc (.cells #[.int .i64 n2, .slice a5 l2.length c5] 26)) := (Below.refl _ _).alloc (Nat.le_refl _) _
      have zA : (w7.alloc (.cells #[.int .i64 n2, .slice a5 l2.length c5] 26)).heap.size = w7.heap.size + 1 := by simp
      replace AA : Hid (Liv w.heap.size (w.heap.size + 1) (fun W => Bx W w.heap.size 44 #[.int .i64 n, .slice a l.length cap]) (w7.alloc (.cells #[.int .i64 n2, .slice a5 l2.length c5] 26))) := AA.out.kept hbA
      replace AB : Hid (Liv (w.heap.size + 1) (w.heap.size + 1 + 1) (fun W => Bx W (w.heap.size + 1) 44 #[.int .i64 n2, .slice b l2.length cap2]) (w7.alloc (.cells #[.int .i64 n2, .slice a5 l2.length c5] 26))) := AB.out.kept hbA
      replace W0 : Hid (Liv w3.heap.size w4.heap.size (fun W => Bx W gbJa 26 #[.int .i64 Q, .slice p1Ja M.length d1Ja]) (w7.alloc (.cells #[.int .i64 n2, .slice a5 l2.length c5] 26))) := W0.out.kept hbA
      replace R : Hid (Liv w3.heap.size w4.heap.size (RowF intE 2 w3.heap.size w4.heap.size (.slice p1Ja M.length d1Ja) M) (w7.alloc (.cells #[.int .i64 n2, .slice a5 l2.length c5] 26))) := R.out.kept hbA
      replace X : Hid (Liv w4.heap.size w5.heap.size (RowF intE 2 w4.heap.size w5.heap.size (.slice a4 l.length c4) l) (w7.alloc (.cells #[.int .i64 n2, .slice a5 l2.length c5] 26))) := X.out.kept hbA
      replace X0 : Hid (Liv w5.heap.size (w5.heap.size + 1) (fun W => Bx W (w5.heap.size) 26 #[.int .i64 n, .slice a4 l.length c4]) (w7.alloc (.cells #[.int .i64 n2, .slice a5 l2.length c5] 26))) := X0.out.kept hbA
      replace Y : Hid (Liv w6.heap.size w7.heap.size (RowF intE 2 w6.heap.size w7.heap.size (.slice a5 l2.length c5) l2) (w7.alloc (.cells #[.int .i64 n2, .slice a5 l2.length c5] 26))) := Y.out.kept hbA
      replace BB : Hid (Below w.heap.size w (w7.alloc (.cells #[.int .i64 n2, .slice a5 l2.length c5] 26))) := (show Hid _ from BB.out.trans (hbA.mono BB.out.size))
      have Y0 : Hid (Liv w7.heap.size (w7.heap.size + 1) (fun W => Bx W (w7.heap.size) 26 #[.int .i64 n2, .slice a5 l2.length c5]) (w7.alloc (.cells #[.int .i64 n2, .slice a5 l2.length c5] 26))) := (show Hid _ from Liv.box (Bx.new _ _ _))
      clear hbA
      generalize hww8 : (w7.alloc (.cells #[.int .i64 n2, .slice a5 l2.length c5] 26)) = w8 at BB zA AA AB W0 R X X0 Y Y0
      have Z8 : Hid (w8.heap.size = w7.heap.size + 1) := zA
      clear zA
      have AA_0 := AA.out.now.cell 0
      have AA_1 := AA.out.now.cell 1
      have AB_0 := AB.out.now.cell 0
      have AB_1 := AB.out.now.cell 1
      have W0_0 := W0.out.now.cell 0
      have W0_1 := W0.out.now.cell 1
      have X0_0 := X0.out.now.cell 0
      have X0_1 := X0.out.now.cell 1
      have Y0_0 := Y0.out.now.cell 0
      have Y0_1 := Y0.out.now.cell 1
      go_wp2_with fail
      clear hww8
      clear AA_0 AA_1 AB_0 AB_1 W0_0 W0_1 X0_0 X0_1 Y0_0 Y0_1
      refine (him _ _ _ X.out.now.sls Y.out.now.sls).mono ?_
      rintro e w9 ⟨u6, rfl, ho, hb⟩
      obtain ⟨a6, c6, rfl, _⟩ := ho.form
      replace AA : Hid (Liv w.heap.size (w.heap.size + 1) (fun W => Bx W w.heap.size 44 #[.int .i64 n, .slice a l.length cap]) w9) := AA.out.kept hb
      replace AB : Hid (Liv (w.heap.size + 1) (w.heap.size + 1 + 1) (fun W => Bx W (w.heap.size + 1) 44 #[.int .i64 n2, .slice b l2.length cap2]) w9) := AB.out.kept hb
      replace W0 : Hid (Liv w3.heap.size w4.heap.size (fun W => Bx W gbJa 26 #[.int .i64 Q, .slice p1Ja M.length d1Ja]) w9) := W0.out.kept hb
      replace R : Hid (Liv w3.heap.size w4.heap.size (RowF intE 2 w3.heap.size w4.heap.size (.slice p1Ja M.length d1Ja) M) w9) := R.out.kept hb
      replace X : Hid (Liv w4.heap.size w5.heap.size (RowF intE 2 w4.heap.size w5.heap.size (.slice a4 l.length c4) l) w9) := X.out.kept hb
      replace X0 : Hid (Liv w5.heap.size (w5.heap.size + 1) (fun W => Bx W (w5.heap.size) 26 #[.int .i64 n, .slice a4 l.length c4]) w9) := X0.out.kept hb
      replace Y : Hid (Liv w6.heap.size w7.heap.size (RowF intE 2 w6.heap.size w7.heap.size (.slice a5 l2.length c5) l2) w9) := Y.out.kept hb
      replace Y0 : Hid (Liv w7.heap.size (w7.heap.size + 1) (fun W => Bx W (w7.heap.size) 26 #[.int .i64 n2, .slice a5 l2.length c5]) w9) := Y0.out.kept hb
      have G : Hid (Liv w8.heap.size w9.heap.size (RowF intE 2 w8.heap.size w9.heap.size (.slice a6 M.length c6) M) w9) := (show Hid _ from Liv.new ho)
      have Z9 : Hid (w8.heap.size ≤ w9.heap.size) := hb.size
      replace BB : Hid (Below w.heap.size w w9) := (show Hid _ from BB.out.trans (hb.mono BB.out.size))
      clear hb ho
      have hbA : Below w9.heap.size w9 (w9.alloc (.cells #[.int .i64 Q, .slice a6 M.length c6] 26)) := (Below.refl _ _).alloc (Nat.le_refl _) _
      have zA : (w9.alloc (.cells #[.int .i64 Q, .slice a6 M.length c6] 26)).heap.size = w9.heap.size + 1 := by simp
      replace AA : Hid (Liv w.heap.size (w.heap.size + 1) (fun W => Bx W w.heap.size 44 #[.int .i64 n, .slice a l.length cap]) (w9.alloc (.cells #[.int .i64 Q, .slice a6 M.length c6] 26))) := AA.out.kept hbA
      replace AB : Hid (Liv (w.heap.size + 1) (w.heap.size + 1 + 1) (fun W => Bx W (w.heap.size + 1) 44 #[.int .i64 n2, .slice b l2.length cap2]) (w9.alloc (.cells #[.int .i64 Q, .slice a6 M.length c6] 26))) := AB.out.kept hbA
      replace W0 : Hid (Liv w3.heap.size w4.heap.size (fun W => Bx W gbJa 26 #[.int .i64 Q, .slice p1Ja M.length d1Ja]) (w9.alloc (.cells #[.int .i64 Q, .slice a6 M.length c6] 26))) := W0.out.kept hbA
      replace R : Hid (Liv w3.heap.size w4.heap.size (RowF intE 2 w3.heap.size w4.heap.size (.slice p1Ja M.length d1Ja) M) (w9.alloc (.cells #[.int .i64 Q, .slice a6 M.length c6] 26))) := R.out.kept hbA
      replace X : Hid (Liv w4.heap.size w5.heap.size (RowF intE 2 w4.heap.size w5.heap.size (.slice a4 l.length c4) l) (w9.alloc (.cells #[.int .i64 Q, .slice a6 M.length c6] 26))) := X.out.kept hbA
      replace X0 : Hid (Liv w5.heap.size (w5.heap.size + 1) (fun W => Bx W (w5.heap.size) 26 #[.int .i64 n, .slice a4 l.length c4]) (w9.alloc (.cells #[.int .i64 Q, .slice a6 M.length c6] 26))) := X0.out.kept hbA
      replace Y : Hid (Liv w6.heap.size w7.heap.size (RowF intE 2 w6.heap.size w7.heap.size (.slice a5 l2.length c5) l2) (w9.alloc (.cells #[.int .i64 Q, .slice a6 M.length c6] 26))) := Y.out.kept hbA
      replace Y0 : Hid (Liv w7.heap.size (w7.heap.size + 1) (fun W => Bx W (w7.heap.size) 26 #[.int .i64 n2, .slice a5 l2.length c5]) (w9.alloc (.cells #[.int .i64 Q, .slice a6 M.length c6] 26))) := Y0.out.kept hbA
      replace G : Hid (Liv w8.heap.size w9.heap.size (RowF intE 2 w8.heap.size w9.heap.size (.slice a6 M.length c6) M) (w9.alloc (.cells #[.int .i64 Q, .slice a6 M.length c6] 26))) := G.out.kept hbA
      replace BB : Hid (Below w.heap.size w (w9.alloc (.cells #[.int .i64 Q, .slice a6 M.length c6] 26))) := (show Hid _ from BB.out.trans (hbA.mono BB.out.size))
      have G0 : Hid (Liv w9.heap.size (w9.heap.size + 1) (fun W => Bx W (w9.heap.size) 26 #[.int .i64 Q, .slice a6 M.length c6]) (w9.alloc (.cells #[.int .i64 Q, .slice a6 M.length c6] 26))) := (show Hid _ from Liv.box (Bx.new _ _ _))
      clear hbA
      generalize hww10 : (w9.alloc (.cells #[.int .i64 Q, .slice a6 M.length c6] 26)) = w10 at BB zA AA AB W0 R X X0 Y Y0 G G0
      have Z10 : Hid (w10.heap.size = w9.heap.size + 1) := zA
      clear zA
      have AA_0 := AA.out.now.cell 0
      have AA_1 := AA.out.now.cell 1
      have AB_0 := AB.out.now.cell 0
      have AB_1 := AB.out.now.cell 1
      have W0_0 := W0.out.now.cell 0
      have W0_1 := W0.out.now.cell 1
      have X0_0 := X0.out.now.cell 0
      have X0_1 := X0.out.now.cell 1
      have Y0_0 := Y0.out.now.cell 0
      have Y0_1 := Y0.out.now.cell 1
      have G0_0 := G0.out.now.cell 0
      have G0_1 := G0.out.now.cell 1
      go_wp2_with fail
      clear hww10
      clear AA_0 AA_1 AB_0 AB_1 W0_0 W0_1 X0_0 X0_1 Y0_0 Y0_1 G0_0 G0_1
      refine (hem _ _ _ G.out.now.sls R.out.now.sls).mono ?_
      rintro e w11 ⟨rfl, hb⟩
      replace AA : Hid (Liv w.heap.size (w.heap.size + 1) (fun W => Bx W w.heap.size 44 #[.int .i64 n, .slice a l.length cap]) w11) := AA.out.kept hb
      replace AB : Hid (Liv (w.heap.size + 1) (w.heap.size + 1 + 1) (fun W => Bx W (w.heap.size + 1) 44 #[.int .i64 n2, .slice b l2.length cap2]) w11) := AB.out.kept hb
      replace W0 : Hid (Liv w3.heap.size w4.heap.size (fun W => Bx W gbJa 26 #[.int .i64 Q, .slice p1Ja M.length d1Ja]) w11) := W0.out.kept hb
      replace R : Hid (Liv w3.heap.size w4.heap.size (RowF intE 2 w3.heap.size w4.heap.size (.slice p1Ja M.length d1Ja) M) w11) := R.out.kept hb
      replace X : Hid (Liv w4.heap.size w5.heap.size (RowF intE 2 w4.heap.size w5.heap.size (.slice a4 l.length c4) l) w11) := X.out.kept hb
      replace X0 : Hid (Liv w5.heap.size (w5.heap.size + 1) (fun W => Bx W (w5.heap.size) 26 #[.int .i64 n, .slice a4 l.length c4]) w11) := X0.out.kept hb
      replace Y : Hid (Liv w6.heap.size w7.heap.size (RowF intE 2 w6.heap.size w7.heap.size (.slice a5 l2.length c5) l2) w11) := Y.out.kept hb
      replace Y0 : Hid (Liv w7.heap.size (w7.heap.size + 1) (fun W => Bx W (w7.heap.size) 26 #[.int .i64 n2, .slice a5 l2.length c5]) w11) := Y0.out.kept hb
      replace G : Hid (Liv w8.heap.size w9.heap.size (RowF intE 2 w8.heap.size w9.heap.size (.slice a6 M.length c6) M) w11) := G.out.kept hb
      replace G0 : Hid (Liv w9.heap.size (w9.heap.size + 1) (fun W => Bx W (w9.heap.size) 26 #[.int .i64 Q, .slice a6 M.length c6]) w11) := G0.out.kept hb
      have Z11 : Hid (w10.heap.size ≤ w11.heap.size) := hb.size
      replace BB : Hid (Below w.heap.size w w11) := (show Hid _ from BB.out.trans (hb.mono BB.out.size))
      clear hb
      have AA_0 := AA.out.now.cell 0
      have AA_1 := AA.out.now.cell 1
      have AB_0 := AB.out.now.cell 0
      have AB_1 := AB.out.now.cell 1
      have W0_0 := W0.out.now.cell 0
      have W0_1 := W0.out.now.cell 1
      have X0_0 := X0.out.now.cell 0
      have X0_1 := X0.out.now.cell 1
      have Y0_0 := Y0.out.now.cell 0
      have Y0_1 := Y0.out.now.cell 1
      have G0_0 := G0.out.now.cell 0
      have G0_1 := G0.out.now.cell 1
      go_wp2_with fail
      go_cut [58] from 54 to 58 (fun s wx => s = .bool false ∧ Hid (Below w.heap.size w wx) ∧ Hid (Liv w.heap.size (w.heap.size + 1) (fun W => Bx W w.heap.size 44 #[.int .i64 n, .slice a l.length cap]) wx) ∧ Hid (Liv (w.heap.size + 1) (w.heap.size + 1 + 1) (fun W => Bx W (w.heap.size + 1) 44 #[.int .i64 n2, .slice b l2.length cap2]) wx) ∧ Hid (Liv w3.heap.size w4.heap.size (fun W => Bx W gbJa 26 #[.int .i64 Q, .slice p1Ja M.length d1Ja]) wx) ∧ Hid (Liv w3.heap.size w4.heap.size (RowF intE 2 w3.heap.size w4.heap.size (.slice p1Ja M.length d1Ja) M) wx) ∧ Hid (Liv w4.heap.size w5.heap.size (RowF intE 2 w4.heap.size w5.heap.size (.slice a4 l.length c4) l) wx) ∧ Hid (Liv w5.heap.size (w5.heap.size + 1) (fun W => Bx W (w5.heap.size) 26 #[.int .i64 n, .slice a4 l.length c4]) wx) ∧ Hid (Liv w6.heap.size w7.heap.size (RowF intE 2 w6.heap.size w7.heap.size (.slice a5 l2.length c5) l2) wx) ∧ Hid (Liv w7.heap.size (w7.heap.size + 1) (fun W => Bx W (w7.heap.size) 26 #[.int .i64 n2, .slice a5 l2.length c5]) wx) ∧ Hid (Liv w8.heap.size w9.heap.size (RowF intE 2 w8.heap.size w9.heap.size (.slice a6 M.length c6) M) wx) ∧ Hid (Liv w9.heap.size (w9.heap.size + 1) (fun W => Bx W (w9.heap.size) 26 #[.int .i64 Q, .slice a6 M.length c6]) wx) ∧ Hid (w11.heap.size ≤ wx.heap.size))
      case first =>
        have hD : Below w11.heap.size w11 w11.drew := ⟨rfl, rfl, rfl, Nat.le_refl _, fun _ _ => rfl⟩
        replace BB : Hid (Below w.heap.size w w11.drew) := (show Hid _ from BB.out.trans (hD.mono BB.out.size))
        replace AA : Hid (Liv w.heap.size (w.heap.size + 1) (fun W => Bx W w.heap.size 44 #[.int .i64 n, .slice a l.length cap]) w11.drew) := AA.out.kept hD
        replace AB : Hid (Liv (w.heap.size + 1) (w.heap.size + 1 + 1) (fun W => Bx W (w.heap.size + 1) 44 #[.int .i64 n2, .slice b l2.length cap2]) w11.drew) := AB.out.kept hD
        replace W0 : Hid (Liv w3.heap.size w4.heap.size (fun W => Bx W gbJa 26 #[.int .i64 Q, .slice p1Ja M.length d1Ja]) w11.drew) := W0.out.kept hD
        replace R : Hid (Liv w3.heap.size w4.heap.size (RowF intE 2 w3.heap.size w4.heap.size (.slice p1Ja M.length d1Ja) M) w11.drew) := R.out.kept hD
        replace X : Hid (Liv w4.heap.size w5.heap.size (RowF intE 2 w4.heap.size w5.heap.size (.slice a4 l.length c4) l) w11.drew) := X.out.kept hD
        replace X0 : Hid (Liv w5.heap.size (w5.heap.size + 1) (fun W => Bx W (w5.heap.size) 26 #[.int .i64 n, .slice a4 l.length c4]) w11.drew) := X0.out.kept hD
        replace Y : Hid (Liv w6.heap.size w7.heap.size (RowF intE 2 w6.heap.size w7.heap.size (.slice a5 l2.length c5) l2) w11.drew) := Y.out.kept hD
        replace Y0 : Hid (Liv w7.heap.size (w7.heap.size + 1) (fun W => Bx W (w7.heap.size) 26 #[.int .i64 n2, .slice a5 l2.length c5]) w11.drew) := Y0.out.kept hD
        replace G : Hid (Liv w8.heap.size w9.heap.size (RowF intE 2 w8.heap.size w9.heap.size (.slice a6 M.length c6) M) w11.drew) := G.out.kept hD
        replace G0 : Hid (Liv w9.heap.size (w9.heap.size + 1) (fun W => Bx W (w9.heap.size) 26 #[.int .i64 Q, .slice a6 M.length c6]) w11.drew) := G0.out.kept hD
        clear hD
        go_region_with (first
          | (go_at_call 31; refine (hto _ (by exact HI.out.kept BB.out)).mono ?_; rintro e vT ⟨uT, rfl, ho, hb⟩; obtain ⟨aT, cT, rfl, _⟩ := ho.form; have UT : Hid (Sls intE vT (.slice aT l.length cT) l) := ho.sls; have AAT : Hid (Liv w.heap.size (w.heap.size + 1) (fun W => Bx W w.heap.size 44 #[.int .i64 n, .slice a l.length cap]) vT) := AA.out.kept hb; have ABT : Hid (Liv (w.heap.size + 1) (w.heap.size + 1 + 1) (fun W => Bx W (w.heap.size + 1) 44 #[.int .i64 n2, .slice b l2.length cap2]) vT) := AB.out.kept hb; have W0T : Hid (Liv w3.heap.size w4.heap.size (fun W => Bx W gbJa 26 #[.int .i64 Q, .slice p1Ja M.length d1Ja]) vT) := W0.out.kept hb; have RT : Hid (Liv w3.heap.size w4.heap.size (RowF intE 2 w3.heap.size w4.heap.size (.slice p1Ja M.length d1Ja) M) vT) := R.out.kept hb; have XT : Hid (Liv w4.heap.size w5.heap.size (RowF intE 2 w4.heap.size w5.heap.size (.slice a4 l.length c4) l) vT) := X.out.kept hb; have X0T : Hid (Liv w5.heap.size (w5.heap.size + 1) (fun W => Bx W (w5.heap.size) 26 #[.int .i64 n, .slice a4 l.length c4]) vT) := X0.out.kept hb; have YT : Hid (Liv w6.heap.size w7.heap.size (RowF intE 2 w6.heap.size w7.heap.size (.slice a5 l2.length c5) l2) vT) := Y.out.kept hb; have Y0T : Hid (Liv w7.heap.size (w7.heap.size + 1) (fun W => Bx W (w7.heap.size) 26 #[.int .i64 n2, .slice a5 l2.length c5]) vT) := Y0.out.kept hb; have GT : Hid (Liv w8.heap.size w9.heap.size (RowF intE 2 w8.heap.size w9.heap.size (.slice a6 M.length c6) M) vT) := G.out.kept hb; have G0T : Hid (Liv w9.heap.size (w9.heap.size + 1) (fun W => Bx W (w9.heap.size) 26 #[.int .i64 Q, .slice a6 M.length c6]) vT) := G0.out.kept hb; have AAT_0 := AAT.out.now.cell 0; have AAT_1 := AAT.out.now.cell 1; have ABT_0 := ABT.out.now.cell 0; have ABT_1 := ABT.out.now.cell 1; have W0T_0 := W0T.out.now.cell 0; have W0T_1 := W0T.out.now.cell 1; have X0T_0 := X0T.out.now.cell 0; have X0T_1 := X0T.out.now.cell 1; have Y0T_0 := Y0T.out.now.cell 0; have Y0T_1 := Y0T.out.now.cell 1; have G0T_0 := G0T.out.now.cell 0; have G0T_1 := G0T.out.now.cell 1; have BBT : Hid (Below w.heap.size w vT) := (show Hid _ from BB.out.trans (hb.mono BB.out.size)); have ZT : Hid (w11.heap.size ≤ vT.heap.size) := hb.size; clear ho hb)
          | (go_at_call 32; refine (hel _ _ _ (by exact XT.out.now.sls) (by exact UT.out)).mono ?_; rintro e vE ⟨rfl, hb⟩; have AAE : Hid (Liv w.heap.size (w.heap.size + 1) (fun W => Bx W w.heap.size 44 #[.int .i64 n, .slice a l.length cap]) vE) := AAT.out.kept hb; have ABE : Hid (Liv (w.heap.size + 1) (w.heap.size + 1 + 1) (fun W => Bx W (w.heap.size + 1) 44 #[.int .i64 n2, .slice b l2.length cap2]) vE) := ABT.out.kept hb; have W0E : Hid (Liv w3.heap.size w4.heap.size (fun W => Bx W gbJa 26 #[.int .i64 Q, .slice p1Ja M.length d1Ja]) vE) := W0T.out.kept hb; have RE : Hid (Liv w3.heap.size w4.heap.size (RowF intE 2 w3.heap.size w4.heap.size (.slice p1Ja M.length d1Ja) M) vE) := RT.out.kept hb; have XE : Hid (Liv w4.heap.size w5.heap.size (RowF intE 2 w4.heap.size w5.heap.size (.slice a4 l.length c4) l) vE) := XT.out.kept hb; have X0E : Hid (Liv w5.heap.size (w5.heap.size + 1) (fun W => Bx W (w5.heap.size) 26 #[.int .i64 n, .slice a4 l.length c4]) vE) := X0T.out.kept hb; have YE : Hid (Liv w6.heap.size w7.heap.size (RowF intE 2 w6.heap.size w7.heap.size (.slice a5 l2.length c5) l2) vE) := YT.out.kept hb; have Y0E : Hid (Liv w7.heap.size (w7.heap.size + 1) (fun W => Bx W (w7.heap.size) 26 #[.int .i64 n2, .slice a5 l2.length c5]) vE) := Y0T.out.kept hb; have GE : Hid (Liv w8.heap.size w9.heap.size (RowF intE 2 w8.heap.size w9.heap.size (.slice a6 M.length c6) M) vE) := GT.out.kept hb; have G0E : Hid (Liv w9.heap.size (w9.heap.size + 1) (fun W => Bx W (w9.heap.size) 26 #[.int .i64 Q, .slice a6 M.length c6]) vE) := G0T.out.kept hb; have BBE : Hid (Below w.heap.size w vE) := (show Hid _ from BBT.out.trans (hb.mono BBT.out.size)); have ZE : Hid (w11.heap.size ≤ vE.heap.size) := (show Hid _ from Nat.le_trans ZT.out hb.size); clear hb))
        all_goals (try go_wp2_with fail)
        all_goals go_meet
        all_goals exact ⟨rfl, BBE, AAE, ABE, W0E, RE, XE, X0E, YE, Y0E, GE, G0E, ZE⟩
      case rest =>
        clear AA_0 AA_1 AB_0 AB_1 W0_0 W0_1 X0_0 X0_1 Y0_0 Y0_1 G0_0 G0_1
        clear BB AA AB W0 R X X0 Y Y0 G G0
        obtain ⟨rfl, BB, AA, AB, W0, R, X, X0, Y, Y0, G, G0, Z12⟩ := hcut
        obtain ⟨w12, rfl⟩ : ∃ z, z = wc := ⟨wc, rfl⟩
        have AA_0 := AA.out.now.cell 0
        have AA_1 := AA.out.now.cell 1
        have AB_0 := AB.out.now.cell 0
        have AB_1 := AB.out.now.cell 1
        have W0_0 := W0.out.now.cell 0
        have W0_1 := W0.out.now.cell 1
        have X0_0 := X0.out.now.cell 0
        have X0_1 := X0.out.now.cell 1
        have Y0_0 := Y0.out.now.cell 0
        have Y0_1 := Y0.out.now.cell 1
        have G0_0 := G0.out.now.cell 0
        have G0_1 := G0.out.now.cell 1
        go_wp2_with fail
        go_cut [63] from 59 to 63 (fun s wx => s = .bool false ∧ Hid (Below w.heap.size w wx) ∧ Hid (Liv w.heap.size (w.heap.size + 1) (fun W => Bx W w.heap.size 44 #[.int .i64 n, .slice a l.length cap]) wx) ∧ Hid (Liv (w.heap.size + 1) (w.heap.size + 1 + 1) (fun W => Bx W (w.heap.size + 1) 44 #[.int .i64 n2, .slice b l2.length cap2]) wx) ∧ Hid (Liv w3.heap.size w4.heap.size (fun W => Bx W gbJa 26 #[.int .i64 Q, .slice p1Ja M.length d1Ja]) wx) ∧ Hid (Liv w3.heap.size w4.heap.size (RowF intE 2 w3.heap.size w4.heap.size (.slice p1Ja M.length d1Ja) M) wx) ∧ Hid (Liv w4.heap.size w5.heap.size (RowF intE 2 w4.heap.size w5.heap.size (.slice a4 l.length c4) l) wx) ∧ Hid (Liv w5.heap.size (w5.heap.size + 1) (fun W => Bx W (w5.heap.size) 26 #[.int .i64 n, .slice a4 l.length c4]) wx) ∧ Hid (Liv w6.heap.size w7.heap.size (RowF intE 2 w6.heap.size w7.heap.size (.slice a5 l2.length c5) l2) wx) ∧ Hid (Liv w7.heap.size (w7.heap.size + 1) (fun W => Bx W (w7.heap.size) 26 #[.int .i64 n2, .slice a5 l2.length c5]) wx) ∧ Hid (Liv w8.heap.size w9.heap.size (RowF intE 2 w8.heap.size w9.heap.size (.slice a6 M.length c6) M) wx) ∧ Hid (Liv w9.heap.size (w9.heap.size + 1) (fun W => Bx W (w9.heap.size) 26 #[.int .i64 Q, .slice a6 M.length c6]) wx) ∧ Hid (w12.heap.size ≤ wx.heap.size))
        case first =>
          have hD : Below w12.heap.size w12 w12.drew := ⟨rfl, rfl, rfl, Nat.le_refl _, fun _ _ => rfl⟩
          replace BB : Hid (Below w.heap.size w w12.drew) := (show Hid _ from BB.out.trans (hD.mono BB.out.size))
          replace AA : Hid (Liv w.heap.size (w.heap.size + 1) (fun W => Bx W w.heap.size 44 #[.int .i64 n, .slice a l.length cap]) w12.drew) := AA.out.kept hD
          replace AB : Hid (Liv (w.heap.size + 1) (w.heap.size + 1 + 1) (fun W => Bx W (w.heap.size + 1) 44 #[.int .i64 n2, .slice b l2.length cap2]) w12.drew) := AB.out.kept hD
          replace W0 : Hid (Liv w3.heap.size w4.heap.size (fun W => Bx W gbJa 26 #[.int .i64 Q, .slice p1Ja M.length d1Ja]) w12.drew) := W0.out.kept hD
          replace R : Hid (Liv w3.heap.size w4.heap.size (RowF intE 2 w3.heap.size w4.heap.size (.slice p1Ja M.length d1Ja) M) w12.drew) := R.out.kept hD
          replace X : Hid (Liv w4.heap.size w5.heap.size (RowF intE 2 w4.heap.size w5.heap.size (.slice a4 l.length c4) l) w12.drew) := X.out.kept hD
          replace X0 : Hid (Liv w5.heap.size (w5.heap.size + 1) (fun W => Bx W (w5.heap.size) 26 #[.int .i64 n, .slice a4 l.length c4]) w12.drew) := X0.out.kept hD
          replace Y : Hid (Liv w6.heap.size w7.heap.size (RowF intE 2 w6.heap.size w7.heap.size (.slice a5 l2.length c5) l2) w12.drew) := Y.out.kept hD
          replace Y0 : Hid (Liv w7.heap.size (w7.heap.size + 1) (fun W => Bx W (w7.heap.size) 26 #[.int .i64 n2, .slice a5 l2.length c5]) w12.drew) := Y0.out.kept hD
          replace G : Hid (Liv w8.heap.size w9.heap.size (RowF intE 2 w8.heap.size w9.heap.size (.slice a6 M.length c6) M) w12.drew) := G.out.kept hD
          replace G0 : Hid (Liv w9.heap.size (w9.heap.size + 1) (fun W => Bx W (w9.heap.size) 26 #[.int .i64 Q, .slice a6 M.length c6]) w12.drew) := G0.out.kept hD
          clear hD
          go_region_with (first
            | (go_at_call 31; refine (htp _ (by exact HJ.out.kept BB.out)).mono ?_; rintro e vT ⟨uT, rfl, ho, hb⟩; obtain ⟨aT, cT, rfl, _⟩ := ho.form; have UT : Hid (Sls intE vT (.slice aT l2.length cT) l2) := ho.sls; have AAT : Hid (Liv w.heap.size (w.heap.size + 1) (fun W => Bx W w.heap.size 44 #[.int .i64 n, .slice a l.length cap]) vT) := AA.out.kept hb; have ABT : Hid (Liv (w.heap.size + 1) (w.heap.size + 1 + 1) (fun W => Bx W (w.heap.size + 1) 44 #[.int .i64 n2, .slice b l2.length cap2]) vT) := AB.out.kept hb; have W0T : Hid (Liv w3.heap.size w4.heap.size (fun W => Bx W gbJa 26 #[.int .i64 Q, .slice p1Ja M.length d1Ja]) vT) := W0.out.kept hb; have RT : Hid (Liv w3.heap.size w4.heap.size (RowF intE 2 w3.heap.size w4.heap.size (.slice p1Ja M.length d1Ja) M) vT) := R.out.kept hb; have XT : Hid (Liv w4.heap.size w5.heap.size (RowF intE 2 w4.heap.size w5.heap.size (.slice a4 l.length c4) l) vT) := X.out.kept hb; have X0T : Hid (Liv w5.heap.size (w5.heap.size + 1) (fun W => Bx W (w5.heap.size) 26 #[.int .i64 n, .slice a4 l.length c4]) vT) := X0.out.kept hb; have YT : Hid (Liv w6.heap.size w7.heap.size (RowF intE 2 w6.heap.size w7.heap.size (.slice a5 l2.length c5) l2) vT) := Y.out.kept hb; have Y0T : Hid (Liv w7.heap.size (w7.heap.size + 1) (fun W => Bx W (w7.heap.size) 26 #[.int .i64 n2, .slice a5 l2.length c5]) vT) := Y0.out.kept hb; have GT : Hid (Liv w8.heap.size w9.heap.size (RowF intE 2 w8.heap.size w9.heap.size (.slice a6 M.length c6) M) vT) := G.out.kept hb; have G0T : Hid (Liv w9.heap.size (w9.heap.size + 1) (fun W => Bx W (w9.heap.size) 26 #[.int .i64 Q, .slice a6 M.length c6]) vT) := G0.out.kept hb; have AAT_0 := AAT.out.now.cell 0; have AAT_1 := AAT.out.now.cell 1; have ABT_0 := ABT.out.now.cell 0; have ABT_1 := ABT.out.now.cell 1; have W0T_0 := W0T.out.now.cell 0; have W0T_1 := W0T.out.now.cell 1; have X0T_0 := X0T.out.now.cell 0; have X0T_1 := X0T.out.now.cell 1; have Y0T_0 := Y0T.out.now.cell 0; have Y0T_1 := Y0T.out.now.cell 1; have G0T_0 := G0T.out.now.cell 0; have G0T_1 := G0T.out.now.cell 1; have BBT : Hid (Below w.heap.size w vT) := (show Hid _ from BB.out.trans (hb.mono BB.out.size)); have ZT : Hid (w12.heap.size ≤ vT.heap.size) := hb.size; clear ho hb)
            | (go_at_call 32; refine (hep _ _ _ (by exact YT.out.now.sls) (by exact UT.out)).mono ?_; rintro e vE ⟨rfl, hb⟩; have AAE : Hid (Liv w.heap.size (w.heap.size + 1) (fun W => Bx W w.heap.size 44 #[.int .i64 n, .slice a l.length cap]) vE) := AAT.out.kept hb; have ABE : Hid (Liv (w.heap.size + 1) (w.heap.size + 1 + 1) (fun W => Bx W (w.heap.size + 1) 44 #[.int .i64 n2, .slice b l2.length cap2]) vE) := ABT.out.kept hb; have W0E : Hid (Liv w3.heap.size w4.heap.size (fun W => Bx W gbJa 26 #[.int .i64 Q, .slice p1Ja M.length d1Ja]) vE) := W0T.out.kept hb; have RE : Hid (Liv w3.heap.size w4.heap.size (RowF intE 2 w3.heap.size w4.heap.size (.slice p1Ja M.length d1Ja) M) vE) := RT.out.kept hb; have XE : Hid (Liv w4.heap.size w5.heap.size (RowF intE 2 w4.heap.size w5.heap.size (.slice a4 l.length c4) l) vE) := XT.out.kept hb; have X0E : Hid (Liv w5.heap.size (w5.heap.size + 1) (fun W => Bx W (w5.heap.size) 26 #[.int .i64 n, .slice a4 l.length c4]) vE) := X0T.out.kept hb; have YE : Hid (Liv w6.heap.size w7.heap.size (RowF intE 2 w6.heap.size w7.heap.size (.slice a5 l2.length c5) l2) vE) := YT.out.kept hb; have Y0E : Hid (Liv w7.heap.size (w7.heap.size + 1) (fun W => Bx W (w7.heap.size) 26 #[.int .i64 n2, .slice a5 l2.length c5]) vE) := Y0T.out.kept hb; have GE : Hid (Liv w8.heap.size w9.heap.size (RowF intE 2 w8.heap.size w9.heap.size (.slice a6 M.length c6) M) vE) := GT.out.kept hb; have G0E : Hid (Liv w9.heap.size (w9.heap.size + 1) (fun W => Bx W (w9.heap.size) 26 #[.int .i64 Q, .slice a6 M.length c6]) vE) := G0T.out.kept hb; have BBE : Hid (Below w.heap.size w vE) := (show Hid _ from BBT.out.trans (hb.mono BBT.out.size)); have ZE : Hid (w12.heap.size ≤ vE.heap.size) := (show Hid _ from Nat.le_trans ZT.out hb.size); clear hb))
          all_goals (try go_wp2_with fail)
          all_goals go_meet
          all_goals exact ⟨rfl, BBE, AAE, ABE, W0E, RE, XE, X0E, YE, Y0E, GE, G0E, ZE⟩
        case rest =>
          clear AA_0 AA_1 AB_0 AB_1 W0_0 W0_1 X0_0 X0_1 Y0_0 Y0_1 G0_0 G0_1
          clear BB AA AB W0 R X X0 Y Y0 G G0
          obtain ⟨rfl, BB, AA, AB, W0, R, X, X0, Y, Y0, G, G0, Z13⟩ := hcut
          obtain ⟨w13, rfl⟩ : ∃ z, z = wc := ⟨wc, rfl⟩
          have AA_0 := AA.out.now.cell 0
          have AA_1 := AA.out.now.cell 1
          have AB_0 := AB.out.now.cell 0
          have AB_1 := AB.out.now.cell 1
          have W0_0 := W0.out.now.cell 0
          have W0_1 := W0.out.now.cell 1
          have X0_0 := X0.out.now.cell 0
          have X0_1 := X0.out.now.cell 1
          have Y0_0 := Y0.out.now.cell 0
          have Y0_1 := Y0.out.now.cell 1
          have G0_0 := G0.out.now.cell 0
          have G0_1 := G0.out.now.cell 1
          go_wp2_with fail
          clear AA_0 AA_1 AB_0 AB_1 W0_0 W0_1 X0_0 X0_1 Y0_0 Y0_1 G0_0 G0_1
          refine (hkl _ _ _ X.out.now.1).mono ?_
          rintro e w14 ⟨rfl, hm, hb⟩
          have hc : Chg w4.heap.size w5.heap.size w13 w14 := X.out.now.chg hb
          replace AA : Hid (Liv w.heap.size (w.heap.size + 1) (fun W => Bx W w.heap.size 44 #[.int .i64 n, .slice a l.length cap]) w14) := AA.out.off hc (by have := Z1.out; have := Z2.out; have := Z3.out; have := Z4.out; have := Z5.out; have := Z6.out; have := Z7.out; have := Z8.out; have := Z9.out; have := Z10.out; have := Z11.out; have := Z12.out; have := Z13.out; omega)
          replace AB : Hid (Liv (w.heap.size + 1) (w.heap.size + 1 + 1) (fun W => Bx W (w.heap.size + 1) 44 #[.int .i64 n2, .slice b l2.length cap2]) w14) := AB.out.off hc (by have := Z1.out; have := Z2.out; have := Z3.out; have := Z4.out; have := Z5.out; have := Z6.out; have := Z7.out; have := Z8.out; have := Z9.out; have := Z10.out; have := Z11.out; have := Z12.out; have := Z13.out; omega)
          replace W0 : Hid (Liv w3.heap.size w4.heap.size (fun W => Bx W gbJa 26 #[.int .i64 Q, .slice p1Ja M.length d1Ja]) w14) := W0.out.off hc (by have := Z1.out; have := Z2.out; have := Z3.out; have := Z4.out; have := Z5.out; have := Z6.out; have := Z7.out; have := Z8.out; have := Z9.out; have := Z10.out; have := Z11.out; have := Z12.out; have := Z13.out; omega)
          replace R : Hid (Liv w3.heap.size w4.heap.size (RowF intE 2 w3.heap.size w4.heap.size (.slice p1Ja M.length d1Ja) M) w14) := R.out.off hc (by have := Z1.out; have := Z2.out; have := Z3.out; have := Z4.out; have := Z5.out; have := Z6.out; have := Z7.out; have := Z8.out; have := Z9.out; have := Z10.out; have := Z11.out; have := Z12.out; have := Z13.out; omega)
          replace X : Hid (Liv w4.heap.size w5.heap.size (RowF intE 2 w4.heap.size w5.heap.size (.slice a4 l.length c4) (marksU 1 l.length)) w14) := (show Hid _ from X.out.marked hm hb)
          replace X0 : Hid (Liv w5.heap.size (w5.heap.size + 1) (fun W => Bx W (w5.heap.size) 26 #[.int .i64 n, .slice a4 l.length c4]) w14) := X0.out.off hc (by have := Z1.out; have := Z2.out; have := Z3.out; have := Z4.out; have := Z5.out; have := Z6.out; have := Z7.out; have := Z8.out; have := Z9.out; have := Z10.out; have := Z11.out; have := Z12.out; have := Z13.out; omega)
          replace Y : Hid (Liv w6.heap.size w7.heap.size (RowF intE 2 w6.heap.size w7.heap.size (.slice a5 l2.length c5) l2) w14) := Y.out.off hc (by have := Z1.out; have := Z2.out; have := Z3.out; have := Z4.out; have := Z5.out; have := Z6.out; have := Z7.out; have := Z8.out; have := Z9.out; have := Z10.out; have := Z11.out; have := Z12.out; have := Z13.out; omega)
          replace Y0 : Hid (Liv w7.heap.size (w7.heap.size + 1) (fun W => Bx W (w7.heap.size) 26 #[.int .i64 n2, .slice a5 l2.length c5]) w14) := Y0.out.off hc (by have := Z1.out; have := Z2.out; have := Z3.out; have := Z4.out; have := Z5.out; have := Z6.out; have := Z7.out; have := Z8.out; have := Z9.out; have := Z10.out; have := Z11.out; have := Z12.out; have := Z13.out; omega)
          replace G : Hid (Liv w8.heap.size w9.heap.size (RowF intE 2 w8.heap.size w9.heap.size (.slice a6 M.length c6) M) w14) := G.out.off hc (by have := Z1.out; have := Z2.out; have := Z3.out; have := Z4.out; have := Z5.out; have := Z6.out; have := Z7.out; have := Z8.out; have := Z9.out; have := Z10.out; have := Z11.out; have := Z12.out; have := Z13.out; omega)
          replace G0 : Hid (Liv w9.heap.size (w9.heap.size + 1) (fun W => Bx W (w9.heap.size) 26 #[.int .i64 Q, .slice a6 M.length c6]) w14) := G0.out.off hc (by have := Z1.out; have := Z2.out; have := Z3.out; have := Z4.out; have := Z5.out; have := Z6.out; have := Z7.out; have := Z8.out; have := Z9.out; have := Z10.out; have := Z11.out; have := Z12.out; have := Z13.out; omega)
          have Z14 : Hid (w13.heap.size ≤ w14.heap.size) := hc.size
          replace BB : Hid (Below w.heap.size w w14) := (show Hid _ from hc.below BB.out BB.out.size (by have := Z1.out; have := Z2.out; have := Z3.out; have := Z4.out; have := Z5.out; have := Z6.out; have := Z7.out; have := Z8.out; have := Z9.out; have := Z10.out; have := Z11.out; have := Z12.out; have := Z13.out; have := Z14.out; omega))
          clear hb hc hm
          have AA_0 := AA.out.now.cell 0
          have AA_1 := AA.out.now.cell 1
          have AB_0 := AB.out.now.cell 0
          have AB_1 := AB.out.now.cell 1
          have W0_0 := W0.out.now.cell 0
          have W0_1 := W0.out.now.cell 1
          have X0_0 := X0.out.now.cell 0
          have X0_1 := X0.out.now.cell 1
          have Y0_0 := Y0.out.now.cell 0
          have Y0_1 := Y0.out.now.cell 1
          have G0_0 := G0.out.now.cell 0
          have G0_1 := G0.out.now.cell 1
          go_wp2_with fail
          clear AA_0 AA_1 AB_0 AB_1 W0_0 W0_1 X0_0 X0_1 Y0_0 Y0_1 G0_0 G0_1
          refine (hkp _ _ _ Y.out.now.1).mono ?_
          rintro e w15 ⟨rfl, hm, hb⟩
          have hc : Chg w6.heap.size w7.heap.size w14 w15 := Y.out.now.chg hb
          clear X0
          replace AA : Hid (Liv w.heap.size (w.heap.size + 1) (fun W => Bx W w.heap.size 44 #[.int .i64 n, .slice a l.length cap]) w15) := AA.out.off hc (by have := Z1.out; have := Z2.out; have := Z3.out; have := Z4.out; have := Z5.out; have := Z6.out; have := Z7.out; have := Z8.out; have := Z9.out; have := Z10.out; have := Z11.out; have := Z12.out; have := Z13.out; have := Z14.out; omega)
          replace AB : Hid (Liv (w.heap.size + 1) (w.heap.size + 1 + 1) (fun W => Bx W (w.heap.size + 1) 44 #[.int .i64 n2, .slice b l2.length cap2]) w15) := AB.out.off hc (by have := Z1.out; have := Z2.out; have := Z3.out; have := Z4.out; have := Z5.out; have := Z6.out; have := Z7.out; have := Z8.out; have := Z9.out; have := Z10.out; have := Z11.out; have := Z12.out; have := Z13.out; have := Z14.out; omega)
          replace W0 : Hid (Liv w3.heap.size w4.heap.size (fun W => Bx W gbJa 26 #[.int .i64 Q, .slice p1Ja M.length d1Ja]) w15) := W0.out.off hc (by have := Z1.out; have := Z2.out; have := Z3.out; have := Z4.out; have := Z5.out; have := Z6.out; have := Z7.out; have := Z8.out; have := Z9.out; have := Z10.out; have := Z11.out; have := Z12.out; have := Z13.out; have := Z14.out; omega)
          replace R : Hid (Liv w3.heap.size w4.heap.size (RowF intE 2 w3.heap.size w4.heap.size (.slice p1Ja M.length d1Ja) M) w15) := R.out.off hc (by have := Z1.out; have := Z2.out; have := Z3.out; have := Z4.out; have := Z5.out; have := Z6.out; have := Z7.out; have := Z8.out; have := Z9.out; have := Z10.out; have := Z11.out; have := Z12.out; have := Z13.out; have := Z14.out; omega)
          replace Y : Hid (Liv w6.heap.size w7.heap.size (RowF intE 2 w6.heap.size w7.heap.size (.slice a5 l2.length c5) (marksU (1 + l.length) l2.length)) w15) := (show Hid _ from Y.out.marked hm hb)
          replace Y0 : Hid (Liv w7.heap.size (w7.heap.size + 1) (fun W => Bx W (w7.heap.size) 26 #[.int .i64 n2, .slice a5 l2.length c5]) w15) := Y0.out.off hc (by have := Z1.out; have := Z2.out; have := Z3.out; have := Z4.out; have := Z5.out; have := Z6.out; have := Z7.out; have := Z8.out; have := Z9.out; have := Z10.out; have := Z11.out; have := Z12.out; have := Z13.out; have := Z14.out; omega)
          replace G : Hid (Liv w8.heap.size w9.heap.size (RowF intE 2 w8.heap.size w9.heap.size (.slice a6 M.length c6) M) w15) := G.out.off hc (by have := Z1.out; have := Z2.out; have := Z3.out; have := Z4.out; have := Z5.out; have := Z6.out; have := Z7.out; have := Z8.out; have := Z9.out; have := Z10.out; have := Z11.out; have := Z12.out; have := Z13.out; have := Z14.out; omega)
          replace G0 : Hid (Liv w9.heap.size (w9.heap.size + 1) (fun W => Bx W (w9.heap.size) 26 #[.int .i64 Q, .slice a6 M.length c6]) w15) := G0.out.off hc (by have := Z1.out; have := Z2.out; have := Z3.out; have := Z4.out; have := Z5.out; have := Z6.out; have := Z7.out; have := Z8.out; have := Z9.out; have := Z10.out; have := Z11.out; have := Z12.out; have := Z13.out; have := Z14.out; omega)
          clear X
          have Z15 : Hid (w14.heap.size ≤ w15.heap.size) := hc.size
          replace BB : Hid (Below w.heap.size w w15) := (show Hid _ from hc.below BB.out BB.out.size (by have := Z1.out; have := Z2.out; have := Z3.out; have := Z4.out; have := Z5.out; have := Z6.out; have := Z7.out; have := Z8.out; have := Z9.out; have := Z10.out; have := Z11.out; have := Z12.out; have := Z13.out; have := Z14.out; have := Z15.out; omega))
          clear hb hc hm
          have AA_0 := AA.out.now.cell 0
          have AA_1 := AA.out.now.cell 1
          have AB_0 := AB.out.now.cell 0
          have AB_1 := AB.out.now.cell 1
          have W0_0 := W0.out.now.cell 0
          have W0_1 := W0.out.now.cell 1
          have Y0_0 := Y0.out.now.cell 0
          have Y0_1 := Y0.out.now.cell 1
          have G0_0 := G0.out.now.cell 0
          have G0_1 := G0.out.now.cell 1
          go_wp2_with fail
          clear AA_0 AA_1 AB_0 AB_1 W0_0 W0_1 Y0_0 Y0_1 G0_0 G0_1
          refine (hem _ _ _ G.out.now.sls R.out.now.sls).mono ?_
          rintro e w16 ⟨rfl, hb⟩
          clear Y0
          replace AA : Hid (Liv w.heap.size (w.heap.size + 1) (fun W => Bx W w.heap.size 44 #[.int .i64 n, .slice a l.length cap]) w16) := AA.out.kept hb
          replace AB : Hid (Liv (w.heap.size + 1) (w.heap.size + 1 + 1) (fun W => Bx W (w.heap.size + 1) 44 #[.int .i64 n2, .slice b l2.length cap2]) w16) := AB.out.kept hb
          replace W0 : Hid (Liv w3.heap.size w4.heap.size (fun W => Bx W gbJa 26 #[.int .i64 Q, .slice p1Ja M.length d1Ja]) w16) := W0.out.kept hb
          replace R : Hid (Liv w3.heap.size w4.heap.size (RowF intE 2 w3.heap.size w4.heap.size (.slice p1Ja M.length d1Ja) M) w16) := R.out.kept hb
          replace G : Hid (Liv w8.heap.size w9.heap.size (RowF intE 2 w8.heap.size w9.heap.size (.slice a6 M.length c6) M) w16) := G.out.kept hb
          replace G0 : Hid (Liv w9.heap.size (w9.heap.size + 1) (fun W => Bx W (w9.heap.size) 26 #[.int .i64 Q, .slice a6 M.length c6]) w16) := G0.out.kept hb
          clear Y
          have Z16 : Hid (w15.heap.size ≤ w16.heap.size) := hb.size
          replace BB : Hid (Below w.heap.size w w16) := (show Hid _ from BB.out.trans (hb.mono BB.out.size))
          clear hb
          have AA_0 := AA.out.now.cell 0
          have AA_1 := AA.out.now.cell 1
          have AB_0 := AB.out.now.cell 0
          have AB_1 := AB.out.now.cell 1
          have W0_0 := W0.out.now.cell 0
          have W0_1 := W0.out.now.cell 1
          have G0_0 := G0.out.now.cell 0
          have G0_1 := G0.out.now.cell 1
          go_wp2_with fail
          clear AA_0 AA_1 AB_0 AB_1 W0_0 W0_1 G0_0 G0_1
          refine (hkm _ _ _ G.out.now.1).mono ?_
          rintro e w17 ⟨rfl, hm, hb⟩
          have hc : Chg w8.heap.size w9.heap.size w16 w17 := G.out.now.chg hb
          replace AA : Hid (Liv w.heap.size (w.heap.size + 1) (fun W => Bx W w.heap.size 44 #[.int .i64 n, .slice a l.length cap]) w17) := AA.out.off hc (by have := Z1.out; have := Z2.out; have := Z3.out; have := Z4.out; have := Z5.out; have := Z6.out; have := Z7.out; have := Z8.out; have := Z9.out; have := Z10.out; have := Z11.out; have := Z12.out; have := Z13.out; have := Z14.out; have := Z15.out; have := Z16.out; omega)
          replace AB : Hid (Liv (w.heap.size + 1) (w.heap.size + 1 + 1) (fun W => Bx W (w.heap.size + 1) 44 #[.int .i64 n2, .slice b l2.length cap2]) w17) := AB.out.off hc (by have := Z1.out; have := Z2.out; have := Z3.out; have := Z4.out; have := Z5.out; have := Z6.out; have := Z7.out; have := Z8.out; have := Z9.out; have := Z10.out; have := Z11.out; have := Z12.out; have := Z13.out; have := Z14.out; have := Z15.out; have := Z16.out; omega)
          replace W0 : Hid (Liv w3.heap.size w4.heap.size (fun W => Bx W gbJa 26 #[.int .i64 Q, .slice p1Ja M.length d1Ja]) w17) := W0.out.off hc (by have := Z1.out; have := Z2.out; have := Z3.out; have := Z4.out; have := Z5.out; have := Z6.out; have := Z7.out; have := Z8.out; have := Z9.out; have := Z10.out; have := Z11.out; have := Z12.out; have := Z13.out; have := Z14.out; have := Z15.out; have := Z16.out; omega)
          replace R : Hid (Liv w3.heap.size w4.heap.size (RowF intE 2 w3.heap.size w4.heap.size (.slice p1Ja M.length d1Ja) M) w17) := R.out.off hc (by have := Z1.out; have := Z2.out; have := Z3.out; have := Z4.out; have := Z5.out; have := Z6.out; have := Z7.out; have := Z8.out; have := Z9.out; have := Z10.out; have := Z11.out; have := Z12.out; have := Z13.out; have := Z14.out; have := Z15.out; have := Z16.out; omega)
          replace G : Hid (Liv w8.heap.size w9.heap.size (RowF intE 2 w8.heap.size w9.heap.size (.slice a6 M.length c6) (marksU 1 M.length)) w17) := (show Hid _ from G.out.marked hm hb)
          replace G0 : Hid (Liv w9.heap.size (w9.heap.size + 1) (fun W => Bx W (w9.heap.size) 26 #[.int .i64 Q, .slice a6 M.length c6]) w17) := G0.out.off hc (by have := Z1.out; have := Z2.out; have := Z3.out; have := Z4.out; have := Z5.out; have := Z6.out; have := Z7.out; have := Z8.out; have := Z9.out; have := Z10.out; have := Z11.out; have := Z12.out; have := Z13.out; have := Z14.out; have := Z15.out; have := Z16.out; omega)
          have Z17 : Hid (w16.heap.size ≤ w17.heap.size) := hc.size
          replace BB : Hid (Below w.heap.size w w17) := (show Hid _ from hc.below BB.out BB.out.size (by have := Z1.out; have := Z2.out; have := Z3.out; have := Z4.out; have := Z5.out; have := Z6.out; have := Z7.out; have := Z8.out; have := Z9.out; have := Z10.out; have := Z11.out; have := Z12.out; have := Z13.out; have := Z14.out; have := Z15.out; have := Z16.out; have := Z17.out; omega))
          clear hb hc hm
          have AA_0 := AA.out.now.cell 0
          have AA_1 := AA.out.now.cell 1
          have AB_0 := AB.out.now.cell 0
          have AB_1 := AB.out.now.cell 1
          have W0_0 := W0.out.now.cell 0
          have W0_1 := W0.out.now.cell 1
          have G0_0 := G0.out.now.cell 0
          have G0_1 := G0.out.now.cell 1
          go_wp2_with fail
          clear AA_0 AA_1 AB_0 AB_1 W0_0 W0_1 G0_0 G0_1
          refine (hhm _ _ G.out.now.sls).mono ?_
          rintro e w18 ⟨rfl, hb⟩
          replace AA : Hid (Liv w.heap.size (w.heap.size + 1) (fun W => Bx W w.heap.size 44 #[.int .i64 n, .slice a l.length cap]) w18) := AA.out.kept hb
          replace AB : Hid (Liv (w.heap.size + 1) (w.heap.size + 1 + 1) (fun W => Bx W (w.heap.size + 1) 44 #[.int .i64 n2, .slice b l2.length cap2]) w18) := AB.out.kept hb
          replace W0 : Hid (Liv w3.heap.size w4.heap.size (fun W => Bx W gbJa 26 #[.int .i64 Q, .slice p1Ja M.length d1Ja]) w18) := W0.out.kept hb
          replace R : Hid (Liv w3.heap.size w4.heap.size (RowF intE 2 w3.heap.size w4.heap.size (.slice p1Ja M.length d1Ja) M) w18) := R.out.kept hb
          replace G : Hid (Liv w8.heap.size w9.heap.size (RowF intE 2 w8.heap.size w9.heap.size (.slice a6 M.length c6) (marksU 1 M.length)) w18) := G.out.kept hb
          replace G0 : Hid (Liv w9.heap.size (w9.heap.size + 1) (fun W => Bx W (w9.heap.size) 26 #[.int .i64 Q, .slice a6 M.length c6]) w18) := G0.out.kept hb
          have Z18 : Hid (w17.heap.size ≤ w18.heap.size) := hb.size
          replace BB : Hid (Below w.heap.size w w18) := (show Hid _ from BB.out.trans (hb.mono BB.out.size))
          clear hb
          have AA_0 := AA.out.now.cell 0
          have AA_1 := AA.out.now.cell 1
          have AB_0 := AB.out.now.cell 0
          have AB_1 := AB.out.now.cell 1
          have W0_0 := W0.out.now.cell 0
          have W0_1 := W0.out.now.cell 1
          have G0_0 := G0.out.now.cell 0
          have G0_1 := G0.out.now.cell 1
          go_wp2_with fail
          generalize hA : Act.mk _ _ = A
          obtain ⟨s, hs, s2_, s3_, s4_, s6_, s7_, s10_, s13_⟩ : ∃ s : Nat → Value, A = frJb s s ∧ s 2 = .pointer (some ⟨w.heap.size, 0, none⟩) ∧ s 3 = .pointer (some ⟨w.heap.size + 1, 0, none⟩) ∧ s 4 = .bool false ∧ s 6 = .pointer (some ⟨gbJa, 0, none⟩) ∧ s 7 = .bool bb ∧ s 10 = .pointer (some ⟨w9.heap.size, 0, none⟩) ∧ s 13 = .int .i64 mm := by
            refine ⟨fun i => A.tmps.getD i undef, ?_, ?_, ?_, ?_, ?_, ?_, ?_, ?_⟩ <;> rw [← hA] <;> rfl
          rw [hs]
          clear hs hA
          refine region_headsL 10 mixed (by decide) (by kernel_rfl) (by kernel_rfl) (by kernel_rfl) (by kernel_rfl) (frJb s) dJb (SJb w18 Q M) (GJb n a cap l n2 b cap2 l2 Q M bb w18.heap.size) (fun i j hi hj h => dJb_ne hi hj h) ?put s rfl ⟨⟨rfl, rfl, rfl, Nat.le_refl _, fun _ _ => rfl⟩, fun h => by cases h⟩ ?step ?done
          case put =>
            intro i o hi ho t v
            rcases (show i = 0 ∨ i = 1 ∨ i = 2 ∨ i = 3 ∨ i = 4 ∨ i = 5 ∨ i = 6 ∨ i = 7 ∨ i = 8 ∨ i = 9 by omega) with rfl | rfl | rfl | rfl | rfl | rfl | rfl | rfl | rfl | rfl
            all_goals
              obtain rfl := Option.some.inj ho
              rfl
          case step =>
            intro i o hi ho listed hnl hcl hls t x hS hdep K hK
            rcases (show i = 0 ∨ i = 1 ∨ i = 2 ∨ i = 3 ∨ i = 4 ∨ i = 5 ∨ i = 6 ∨ i = 7 ∨ i = 8 ∨ i = 9 by omega) with rfl | rfl | rfl | rfl | rfl | rfl | rfl | rfl | rfl | rfl
            all_goals obtain rfl := Option.some.inj ho
            · have y0 := (AA.out.kept hS.1).now.cell 0
              have y1 := (AA.out.kept hS.1).now.cell 1
              have HK : Hid (K ((frJb s t).put (some 95) (.agg #[.int .i64 n, .slice a l.length cap])) x) := hK _ _ (hS.upd (by decide) (by decide) (Below.refl _ _)) (fun j u hj hne h => h) rfl
              have h2 := HK.out
              unfold frJb at h2 ⊢
              clear HK hK
              go_simp
              simpa [Act.put, y0, y1, s2_, s3_, s4_, s6_, s7_, s10_, s13_] using h2
            · have e0 : t 95 = .agg #[.int .i64 n, .slice a l.length cap] := hdep { on := 0, ground := Ground.data } (by simp) rfl
              refine callG1 (by rfl) 31 (.tmp 95) _ rfl (.agg #[.int .i64 n, .slice a l.length cap]) e0 (Go.Proofs.enters_of Try.func31 (by kernel_rfl) rfl _) (fun v y => (∃ (p1 : Option Addr) (d1 : Nat), v = .agg #[.int .i64 n, .slice p1 l.length d1] ∧ HasN y w18.heap.size (.slice p1 l.length d1) l) ∧ Below x.heap.size x y) ((hto x (HI.out.kept (pastK BB.out hS.1))).mono ?_) ?_
              · rintro e y ⟨u2, h0, h1, h3⟩
                obtain ⟨p1, d1, rfl, _⟩ := h1.form
                exact ⟨_, h0, ⟨p1, d1, rfl, (h1.low hS.1.size).has⟩, h3⟩
              · rintro v y ⟨h1, h2⟩
                exact hK v y (hS.upd (by decide) (by decide) h2) (fun j u hj hne h => GJb.keep n a cap l n2 b cap2 l2 Q M bb w18.heap.size (Kx.of h2) j u hj h) h1
            · have y0 := (AB.out.kept hS.1).now.cell 0
              have y1 := (AB.out.kept hS.1).now.cell 1
              have HK : Hid (K ((frJb s t).put (some 97) (.agg #[.int .i64 n2, .slice b l2.length cap2])) x) := hK _ _ (hS.upd (by decide) (by decide) (Below.refl _ _)) (fun j u hj hne h => h) rfl
              have h2 := HK.out
              unfold frJb at h2 ⊢
              clear HK hK
              go_simp
              simpa [Act.put, y0, y1, s2_, s3_, s4_, s6_, s7_, s10_, s13_] using h2
            · have e2 : t 97 = .agg #[.int .i64 n2, .slice b l2.length cap2] := hdep { on := 2, ground := Ground.data } (by simp) rfl
              refine callG1 (by rfl) 31 (.tmp 97) _ rfl (.agg #[.int .i64 n2, .slice b l2.length cap2]) e2 (Go.Proofs.enters_of Try.func31 (by kernel_rfl) rfl _) (fun v y => (∃ (p1 : Option Addr) (d1 : Nat), v = .agg #[.int .i64 n2, .slice p1 l2.length d1] ∧ HasN y w18.heap.size (.slice p1 l2.length d1) l2) ∧ Below x.heap.size x y) ((htp x (HJ.out.kept (pastK BB.out hS.1))).mono ?_) ?_
              · rintro e y ⟨u2, h0, h1, h3⟩
                obtain ⟨p1, d1, rfl, _⟩ := h1.form
                exact ⟨_, h0, ⟨p1, d1, rfl, (h1.low hS.1.size).has⟩, h3⟩
              · rintro v y ⟨h1, h2⟩
                exact hK v y (hS.upd (by decide) (by decide) h2) (fun j u hj hne h => GJb.keep n a cap l n2 b cap2 l2 Q M bb w18.heap.size (Kx.of h2) j u hj h) h1
            · have e1 : ∃ (p1 : Option Addr) (d1 : Nat), t 96 = .agg #[.int .i64 n, .slice p1 l.length d1] ∧ HasN x w18.heap.size (.slice p1 l.length d1) l := hdep { on := 1, ground := Ground.data } (by simp) rfl
              obtain ⟨r1, f1, e1, k1⟩ := e1
              have e3 : ∃ (p1 : Option Addr) (d1 : Nat), t 98 = .agg #[.int .i64 n2, .slice p1 l2.length d1] ∧ HasN x w18.heap.size (.slice p1 l2.length d1) l2 := hdep { on := 3, ground := Ground.data } (by simp) rfl
              obtain ⟨r3, f3, e3, k3⟩ := e3
              refine callG2 (by rfl) 14 (.tmp 96) (.tmp 98) _ rfl (.agg #[.int .i64 n, .slice r1 l.length f1]) (.agg #[.int .i64 n2, .slice r3 l2.length f3]) e1 e3 (Go.Proofs.enters_of Try.func14 (by kernel_rfl) rfl _) (fun v y => (∃ (p1 : Option Addr) (d1 : Nat), v = .tuple #[.agg #[.int .i64 Q, .slice p1 M.length d1], .bool bb] ∧ HasN y w18.heap.size (.slice p1 M.length d1) M) ∧ Below x.heap.size x y) ((him _ _ x k1.sls k3.sls).mono ?_) ?_
              · rintro e y ⟨u2, h0, h1, h3⟩
                obtain ⟨p1, d1, rfl, _⟩ := h1.form
                exact ⟨_, h0, ⟨p1, d1, rfl, (h1.low hS.1.size)⟩, h3⟩
              · rintro v y ⟨h1, h2⟩
                exact hK v y (hS.upd (by decide) (by decide) h2) (fun j u hj hne h => GJb.keep n a cap l n2 b cap2 l2 Q M bb w18.heap.size (Kx.of h2) j u hj h) h1
            · have e4 : ∃ (p1 : Option Addr) (d1 : Nat), t 99 = .tuple #[.agg #[.int .i64 Q, .slice p1 M.length d1], .bool bb] ∧ HasN x w18.heap.size (.slice p1 M.length d1) M := hdep { on := 4, ground := Ground.data } (by simp) rfl
              obtain ⟨p1, d1, e4, k4⟩ := e4
              have HK : Hid (K ((frJb s t).put (some 94) (.tuple #[.agg #[.int .i64 Q, .slice p1 M.length d1], .bool bb])) x) := hK _ _ (hS.upd (by decide) (by decide) (Below.refl _ _)) (fun j u hj hne h => h) ⟨p1, d1, rfl, k4⟩
              have h2 := HK.out
              unfold frJb at h2 ⊢
              clear HK hK
              go_simp
              simpa [Act.put, e4, s2_, s3_, s4_, s6_, s7_, s10_, s13_] using h2
            · have e5 : ∃ (p1 : Option Addr) (d1 : Nat), t 94 = .tuple #[.agg #[.int .i64 Q, .slice p1 M.length d1], .bool bb] ∧ HasN x w18.heap.size (.slice p1 M.length d1) M := hdep { on := 5, ground := Ground.data } (by simp) rfl
              obtain ⟨p1, d1, e5, k5⟩ := e5
              have HK : Hid (K ((frJb s t).put (some 100) (.agg #[.int .i64 Q, .slice p1 M.length d1])) x) := hK _ _ (hS.upd (by decide) (by decide) (Below.refl _ _)) (fun j u hj hne h => h) ⟨p1, d1, rfl, k5⟩
              have h2 := HK.out
              unfold frJb at h2 ⊢
              clear HK hK
              go_simp
              simpa [Act.put, e5, s2_, s3_, s4_, s6_, s7_, s10_, s13_] using h2
            · have e5 : ∃ (p1 : Option Addr) (d1 : Nat), t 94 = .tuple #[.agg #[.int .i64 Q, .slice p1 M.length d1], .bool bb] ∧ HasN x w18.heap.size (.slice p1 M.length d1) M := hdep { on := 5, ground := Ground.data } (by simp) rfl
              obtain ⟨p1, d1, e5, k5⟩ := e5
              have HK : Hid (K ((frJb s t).put (some 101) (.bool bb)) x) := hK _ _ (hS.upd (by decide) (by decide) (Below.refl _ _)) (fun j u hj hne h => h) rfl
              have h2 := HK.out
              unfold frJb at h2 ⊢
              clear HK hK
              go_simp
              simpa [Act.put, e5, s2_, s3_, s4_, s6_, s7_, s10_, s13_] using h2
            · have h9 : listed.getD 9 false = false := by
                cases hq : listed.getD 9 false with
                | false => rfl
                | true =>
                  have := hcl 9 _ rfl hq { on := 8, ground := Ground.data } (by simp) rfl
                  rw [hnl] at this
                  cases this
              have hba := (Below.refl x.heap.size x).alloc (Nat.le_refl _) (.cells #[.int .i64 0, .slice none 0 0] 26)
              have HK : Hid (K ((frJb s t).put (some 15) (.pointer (some ⟨x.heap.size, 0, none⟩))) (x.alloc (.cells #[.int .i64 0, .slice none 0 0] 26))) := hK _ _ (hS.new (by decide) h9 hba) (fun j u hj hne h => GJb.keep n a cap l n2 b cap2 l2 Q M bb w18.heap.size (Kx.of hba) j u hj h) ⟨x.heap.size, rfl, hS.1.size, _, Bx.new x 26 _, rfl⟩
              have h2 := HK.out
              unfold frJb at h2 ⊢
              clear HK hK
              go_simp
              simpa [Act.put, s2_, s3_, s4_, s6_, s7_, s10_, s13_] using h2
            · have e6 : ∃ (p1 : Option Addr) (d1 : Nat), t 100 = .agg #[.int .i64 Q, .slice p1 M.length d1] ∧ HasN x w18.heap.size (.slice p1 M.length d1) M := hdep { on := 6, ground := Ground.data } (by simp) rfl
              obtain ⟨p1, d1, e6, k6⟩ := e6
              have e8 : ∃ gb, t 15 = .pointer (some ⟨gb, 0, none⟩) ∧ BoxK 26 2 w18.heap.size x gb := hdep { on := 8, ground := Ground.data } (by simp) rfl
              obtain ⟨gb, e8, hX⟩ := e8
              have hk1 := Kx.put hX 0 (.int .i64 Q)
              have hkp := hk1.trans (Kx.put (hX.kx hk1) 1 (.slice p1 M.length d1))
              have hS2 : SJb w18 Q M (listed.setIfInBounds 9 true) (updH t (dJb 9) undef) ((x.setCell ⟨gb, 0, none⟩ (.int .i64 Q)).setCell ⟨gb, 1, none⟩ (.slice p1 M.length d1)) := ⟨(hS.1.setCell hX.1 _).setCell hX.1 _, fun _ => ⟨gb, p1, d1, by rw [updH_other _ _ (by decide)]; exact e8, hX.1, hX.put2 _ _, k6.kx hkp (by decide)⟩⟩
              have HK : Hid (K ((frJb s t).put none undef) ((x.setCell ⟨gb, 0, none⟩ (.int .i64 Q)).setCell ⟨gb, 1, none⟩ (.slice p1 M.length d1))) := hK _ _ hS2 (fun j u hj hne h => GJb.keep n a cap l n2 b cap2 l2 Q M bb w18.heap.size hkp j u hj h) trivial
              obtain ⟨_, cc, hc1, hc2⟩ := hX
              obtain ⟨q0, q1, rfl⟩ : ∃ q0 q1, cc = #[q0, q1] := by
                obtain ⟨L⟩ := cc
                match L, hc2 with
                | [q0, q1], _ => exact ⟨q0, q1, rfl⟩
              have hc3 : Bx x gb 26 #[q0, q1] := hc1
              have z0 := hc3.cell 0
              have z1 := hc3.cell 1
              have zf : ∀ k, x.frozen? ⟨gb, k, none⟩ = false := fun k => hc3.free k
              have h2 := HK.out
              unfold frJb at h2 ⊢
              go_simp
              simpa [Act.put, e6, e8, z0, z1, zf, s2_, s3_, s4_, s6_, s7_, s10_, s13_] using h2
          case done =>
            intro listed t x hall hS hG
            have e7 : t 101 = .bool bb := hG 7 (by decide)
            obtain ⟨gbJb, p1Jb, d1Jb, e8, hgb, hX, hR⟩ := hS.2 (hall 9 (by decide))
            have hb := hS.1
            clear hG hS hall
            obtain ⟨w19, rfl⟩ : ∃ z, z = x := ⟨x, rfl⟩
            clear AA_0 AA_1 AB_0 AB_1 W0_0 W0_1 G0_0 G0_1
            replace AA : Hid (Liv w.heap.size (w.heap.size + 1) (fun W => Bx W w.heap.size 44 #[.int .i64 n, .slice a l.length cap]) w19) := AA.out.kept hb
            replace AB : Hid (Liv (w.heap.size + 1) (w.heap.size + 1 + 1) (fun W => Bx W (w.heap.size + 1) 44 #[.int .i64 n2, .slice b l2.length cap2]) w19) := AB.out.kept hb
            replace W0 : Hid (Liv w3.heap.size w4.heap.size (fun W => Bx W gbJa 26 #[.int .i64 Q, .slice p1Ja M.length d1Ja]) w19) := W0.out.kept hb
            replace R : Hid (Liv w3.heap.size w4.heap.size (RowF intE 2 w3.heap.size w4.heap.size (.slice p1Ja M.length d1Ja) M) w19) := R.out.kept hb
            replace G : Hid (Liv w8.heap.size w9.heap.size (RowF intE 2 w8.heap.size w9.heap.size (.slice a6 M.length c6) (marksU 1 M.length)) w19) := G.out.kept hb
            replace G0 : Hid (Liv w9.heap.size (w9.heap.size + 1) (fun W => Bx W (w9.heap.size) 26 #[.int .i64 Q, .slice a6 M.length c6]) w19) := G0.out.kept hb
            have Z19 : Hid (w18.heap.size ≤ w19.heap.size) := hb.size
            replace BB : Hid (Below w.heap.size w w19) := (show Hid _ from pastK BB.out hb)
            have H0 : Hid (Liv w18.heap.size w19.heap.size (fun W => Bx W gbJb 26 #[.int .i64 Q, .slice p1Jb M.length d1Jb]) w19) := (show Hid _ from (Liv.box hX).wide hgb hX.lt (Nat.le_refl _))
            have H : Hid (Liv w18.heap.size w19.heap.size (RowF intE 2 w18.heap.size w19.heap.size (.slice p1Jb M.length d1Jb) M) w19) := (show Hid _ from Liv.new hR)
            clear hb hX hR hgb
            show wpList Try.prog _ _ [_] _ w19
            unfold frJb
            simp only [e7, e8, s2_, s3_, s4_, s6_, s7_, s10_, s13_]
            clear e7 e8 s2_ s3_ s4_ s6_ s7_ s10_ s13_
            have AA_0 := AA.out.now.cell 0
            have AA_1 := AA.out.now.cell 1
            have AB_0 := AB.out.now.cell 0
            have AB_1 := AB.out.now.cell 1
            have W0_0 := W0.out.now.cell 0
            have W0_1 := W0.out.now.cell 1
            have G0_0 := G0.out.now.cell 0
            have G0_1 := G0.out.now.cell 1
            have H0_0 := H0.out.now.cell 0
            have H0_1 := H0.out.now.cell 1
            go_wp2_with fail
            clear AA_0 AA_1 AB_0 AB_1 W0_0 W0_1 G0_0 G0_1 H0_0 H0_1
            refine (hem _ _ _ H.out.now.sls R.out.now.sls).mono ?_
            rintro e w20 ⟨rfl, hb⟩
            replace AA : Hid (Liv w.heap.size (w.heap.size + 1) (fun W => Bx W w.heap.size 44 #[.int .i64 n, .slice a l.length cap]) w20) := AA.out.kept hb
            replace AB : Hid (Liv (w.heap.size + 1) (w.heap.size + 1 + 1) (fun W => Bx W (w.heap.size + 1) 44 #[.int .i64 n2, .slice b l2.length cap2]) w20) := AB.out.kept hb
            replace W0 : Hid (Liv w3.heap.size w4.heap.size (fun W => Bx W gbJa 26 #[.int .i64 Q, .slice p1Ja M.length d1Ja]) w20) := W0.out.kept hb
            replace R : Hid (Liv w3.heap.size w4.heap.size (RowF intE 2 w3.heap.size w4.heap.size (.slice p1Ja M.length d1Ja) M) w20) := R.out.kept hb
            replace G : Hid (Liv w8.heap.size w9.heap.size (RowF intE 2 w8.heap.size w9.heap.size (.slice a6 M.length c6) (marksU 1 M.length)) w20) := G.out.kept hb
            replace G0 : Hid (Liv w9.heap.size (w9.heap.size + 1) (fun W => Bx W (w9.heap.size) 26 #[.int .i64 Q, .slice a6 M.length c6]) w20) := G0.out.kept hb
            replace H0 : Hid (Liv w18.heap.size w19.heap.size (fun W => Bx W gbJb 26 #[.int .i64 Q, .slice p1Jb M.length d1Jb]) w20) := H0.out.kept hb
            replace H : Hid (Liv w18.heap.size w19.heap.size (RowF intE 2 w18.heap.size w19.heap.size (.slice p1Jb M.length d1Jb) M) w20) := H.out.kept hb
            have Z20 : Hid (w19.heap.size ≤ w20.heap.size) := hb.size
            replace BB : Hid (Below w.heap.size w w20) := (show Hid _ from BB.out.trans (hb.mono BB.out.size))
            clear hb
            have AA_0 := AA.out.now.cell 0
            have AA_1 := AA.out.now.cell 1
            have AB_0 := AB.out.now.cell 0
            have AB_1 := AB.out.now.cell 1
            have W0_0 := W0.out.now.cell 0
            have W0_1 := W0.out.now.cell 1
            have G0_0 := G0.out.now.cell 0
            have G0_1 := G0.out.now.cell 1
            have H0_0 := H0.out.now.cell 0
            have H0_1 := H0.out.now.cell 1
            go_wp2_with fail
            clear AA_0 AA_1 AB_0 AB_1 W0_0 W0_1 G0_0 G0_1 H0_0 H0_1
            refine (hhm _ _ G.out.now.sls).mono ?_
            rintro e w21 ⟨rfl, hb⟩
            replace AA : Hid (Liv w.heap.size (w.heap.size + 1) (fun W => Bx W w.heap.size 44 #[.int .i64 n, .slice a l.length cap]) w21) := AA.out.kept hb
            replace AB : Hid (Liv (w.heap.size + 1) (w.heap.size + 1 + 1) (fun W => Bx W (w.heap.size + 1) 44 #[.int .i64 n2, .slice b l2.length cap2]) w21) := AB.out.kept hb
            replace W0 : Hid (Liv w3.heap.size w4.heap.size (fun W => Bx W gbJa 26 #[.int .i64 Q, .slice p1Ja M.length d1Ja]) w21) := W0.out.kept hb
            replace R : Hid (Liv w3.heap.size w4.heap.size (RowF intE 2 w3.heap.size w4.heap.size (.slice p1Ja M.length d1Ja) M) w21) := R.out.kept hb
            replace G : Hid (Liv w8.heap.size w9.heap.size (RowF intE 2 w8.heap.size w9.heap.size (.slice a6 M.length c6) (marksU 1 M.length)) w21) := G.out.kept hb
            replace G0 : Hid (Liv w9.heap.size (w9.heap.size + 1) (fun W => Bx W (w9.heap.size) 26 #[.int .i64 Q, .slice a6 M.length c6]) w21) := G0.out.kept hb
            replace H0 : Hid (Liv w18.heap.size w19.heap.size (fun W => Bx W gbJb 26 #[.int .i64 Q, .slice p1Jb M.length d1Jb]) w21) := H0.out.kept hb
            replace H : Hid (Liv w18.heap.size w19.heap.size (RowF intE 2 w18.heap.size w19.heap.size (.slice p1Jb M.length d1Jb) M) w21) := H.out.kept hb
            have Z21 : Hid (w20.heap.size ≤ w21.heap.size) := hb.size
            replace BB : Hid (Below w.heap.size w w21) := (show Hid _ from BB.out.trans (hb.mono BB.out.size))
            clear hb
            have AA_0 := AA.out.now.cell 0
            have AA_1 := AA.out.now.cell 1
            have AB_0 := AB.out.now.cell 0
            have AB_1 := AB.out.now.cell 1
            have W0_0 := W0.out.now.cell 0
            have W0_1 := W0.out.now.cell 1
            have G0_0 := G0.out.now.cell 0
            have G0_1 := G0.out.now.cell 1
            have H0_0 := H0.out.now.cell 0
            have H0_1 := H0.out.now.cell 1
            go_wp2
            go_ret
            exact ⟨rfl, BB.out⟩
end Go.Proofs.Ytdoolnaekmffbaa

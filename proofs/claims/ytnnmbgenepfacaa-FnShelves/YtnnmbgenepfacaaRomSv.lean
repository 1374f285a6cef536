/-
  The walk of the law FnShelves, given what the program's Place, Used and ShelfOk answer.
-/
import Derived.Test.YtnnmbgenepfacaaRomDq
import Derived.Test.YtnnmbgenepfacaaRomDp
import Derived.Test.YtnnmbgenepfacaaRomLk
import Derived.Test.YtnnmbgenepfacaaRomY
import Derived.Test.YtnnmbgenepfacaaRgX
import Derived.Shelf.Abstract
namespace Go.Proofs.Ytnnmbgenepfacaa
open Go.RowKit Go.Sort Rom
set_option linter.unusedVariables false
set_option linter.unusedSimpArgs false

theorem Code8.upS {w : World} {b b' : Nat} {sa : Option Addr} {sl : Nat} (h : Code8 w b sa sl) (hb : b ≤ b') : Code8 w b' sa sl := by
  intro j hj
  obtain ⟨g, o, z, h1, h2, h3⟩ := h j hj
  exact ⟨g, o, z, h1, by omega, h3⟩
theorem sameS_no {a b : ByteArray} (h : ¬ a = b) : (a.toList == b.toList) = false := by
  have : ¬ a.toList = b.toList := fun e => h (by rw [ByteArray.toList_eq, ByteArray.toList_eq] at e; exact ByteArray.ext (Array.toList_inj.1 e))
  simp [this]
theorem pastS {w w1 w2 : World} (h : Below w.heap.size w w1) (hb : Below w1.heap.size w1 w2) : Below w.heap.size w w2 := h.trans (hb.mono h.size)
theorem boxS (W : World) (o : Obj) : Below W.heap.size W (W.alloc o) := (Below.refl _ W).alloc (Nat.le_refl _) _
theorem plaL_many (q : Int) (l : List It) (key : ByteArray) (n : Int) : (plaG q l key n).length ≤ 51 := by
  unfold plaG
  split
  · rename_i hok
    have := (shOk_iff.1 hok).len
    split
    · unfold goneI
      rw [List.length_reverse, List.length_map, List.length_drop]
      have := allI_length key n l
      omega
    · exact Nat.zero_le _
  · exact Nat.zero_le _
structure Sv (w W : World) (m3 m6 m8 m10 m11 : Nat) (q Q q2 Q2 : Int) (a3 : Option Addr) (c3 : Nat) (a6 : Option Addr) (c6 : Nat) (a8 : Option Addr) (c8 : Nat) (a10 : Option Addr) (c10 : Nat) (a11 : Option Addr) (c11 : Nat) (ag : Option Addr) (cg : Nat) (at' : Option Addr) (ct : Nat) (l P l2 U : List It) (G : List ByteArray) : Prop where
  low : Below w.heap.size w W
  b3 : TwoB W m3 (.int .i64 q) (.slice a3 l.length c3)
  s3 : Sls itE W (.slice a3 l.length c3) l
  b6 : TwoB W m6 (.int .i64 Q) (.slice a6 P.length c6)
  s6 : Sls itE W (.slice a6 P.length c6) P
  xg : Sls txtE W (.slice ag G.length cg) G
  b8 : TwoB W m8 (.int .i64 q2) (.slice a8 l2.length c8)
  s8 : Sls itE W (.slice a8 l2.length c8) l2
  b10 : TwoB W m10 (.int .i64 Q2) (.slice a10 U.length c10)
  s10 : Sls itE W (.slice a10 U.length c10) U
  b11 : TwoB W m11 (.int .i64 Q) (.slice a11 P.length c11)
  s11 : Sls itE W (.slice a11 P.length c11) P
  xt : Sls txtE W (.slice at' G.length ct) G
theorem Sv.kept {w W W' : World} {m3 m6 m8 m10 m11 : Nat} {q Q q2 Q2 : Int} {a3 : Option Addr} {c3 : Nat} {a6 : Option Addr} {c6 : Nat} {a8 : Option Addr} {c8 : Nat} {a10 : Option Addr} {c10 : Nat} {a11 : Option Addr} {c11 : Nat} {ag : Option Addr} {cg : Nat} {at' : Option Addr} {ct : Nat} {l P l2 U : List It} {G : List ByteArray} (h : Sv w W m3 m6 m8 m10 m11 q Q q2 Q2 a3 c3 a6 c6 a8 c8 a10 c10 a11 c11 ag cg at' ct l P l2 U G) (hb : Below W.heap.size W W') : Sv w W' m3 m6 m8 m10 m11 q Q q2 Q2 a3 c3 a6 c6 a8 c8 a10 c10 a11 c11 ag cg at' ct l P l2 U G :=
  ⟨pastS h.low hb, h.b3.kept hb h.b3.lt, h.s3.kept hb, h.b6.kept hb h.b6.lt, h.s6.kept hb, h.xg.kept hb, h.b8.kept hb h.b8.lt, h.s8.kept hb, h.b10.kept hb h.b10.lt, h.s10.kept hb, h.b11.kept hb h.b11.lt, h.s11.kept hb, h.xt.kept hb⟩
def frSv (s t : Nat → Value) : Act := { tmps := #[s 0, s 1, s 2, s 3, s 4, s 5, s 6, s 7, s 8, s 9, s 10, s 11, s 12, s 13, s 14, s 15, s 16, s 17, s 18, s 19, s 20, s 21, s 22, s 23, s 24, s 25, s 26, s 27, s 28, s 29, s 30, s 31, s 32, s 33, s 34, s 35, s 36, s 37, s 38, s 39, s 40, s 41, s 42, s 43, s 44, t 45, t 46, t 47, t 48, t 49, t 50, t 51, t 52, t 53, t 54, t 55, t 56, t 57, t 58, t 59, t 60, t 61, t 62, t 63, t 64, t 65, t 66, t 67, t 68, undef, undef, undef, undef, undef, undef, undef, undef, undef, undef, undef, undef, undef, undef, undef, undef, undef, undef, undef, undef, undef, undef, undef, undef, undef, undef, undef, undef, undef, undef, undef, undef, undef, undef, undef, undef, undef, undef, undef, undef, undef, undef, undef, undef, undef, undef, undef, undef, undef, undef, undef, undef, undef, undef, undef, undef, undef, undef, undef, undef, undef, undef, undef, undef, undef, undef, undef, undef, undef, undef, undef, undef, undef, undef, undef, undef, undef, undef, undef, undef, undef, undef, undef, undef, undef], defers := [] }
def dSv (i : Nat) : Nat := i + 45
def GSv (s : Nat → Value) (q Q q2 Q2 : Int) (a3 : Option Addr) (c3 : Nat) (a6 : Option Addr) (c6 : Nat) (a8 : Option Addr) (c8 : Nat) (a10 : Option Addr) (c10 : Nat) (a11 : Option Addr) (c11 : Nat) (ag : Option Addr) (cg : Nat) (at' : Option Addr) (ct : Nat) (l P l2 U : List It) (G : List ByteArray) (k2 : ByteArray) (O : Bool) (i : Nat) (x : World) (v : Value) : Prop := match i with
  | 0 => v = .agg #[.int .i64 Q, .slice a6 P.length c6]
  | 1 => v = .agg #[.int .i64 Q, .slice a11 P.length c11]
  | 2 => v = .bool true
  | 3 => v = .bool false
  | 4 => v = .bool false
  | 5 => v = .slice ag G.length cg
  | 6 => v = .slice at' G.length ct
  | 7 => v = .bool true
  | 8 => v = .bool false
  | 9 => v = .bool false
  | 10 => v = .bool false
  | 11 => v = .agg #[.int .i64 Q2, .slice a10 U.length c10]
  | 12 => v = .agg #[.int .i64 q2, .slice a8 l2.length c8]
  | 13 => v = .string k2
  | 14 => ∃ (a1 : Option Addr) (c1 : Nat), v = .agg #[.int .i64 Q2, .slice a1 U.length c1] ∧ Sls itE x (.slice a1 U.length c1) U
  | 15 => v = .bool true
  | 16 => v = .bool false
  | 17 => v = .bool false
  | 18 => v = .bool false
  | 19 => v = .agg #[.int .i64 q, .slice a3 l.length c3]
  | 20 => v = .bool O
  | 21 => v = .agg #[.int .i64 q, .slice a3 l.length c3]
  | 22 => v = .bool O
  | 23 => v = .bool false
  | _ => True
theorem GSv.keep (s : Nat → Value) (q Q q2 Q2 : Int) (a3 : Option Addr) (c3 : Nat) (a6 : Option Addr) (c6 : Nat) (a8 : Option Addr) (c8 : Nat) (a10 : Option Addr) (c10 : Nat) (a11 : Option Addr) (c11 : Nat) (ag : Option Addr) (cg : Nat) (at' : Option Addr) (ct : Nat) (l P l2 U : List It) (G : List ByteArray) (k2 : ByteArray) (O : Bool) {x y : World} (hb : Below x.heap.size x y) (j : Nat) (v : Value) (hj : j < 24) (h : GSv s q Q q2 Q2 a3 c3 a6 c6 a8 c8 a10 c10 a11 c11 ag cg at' ct l P l2 U G k2 O j x v) : GSv s q Q q2 Q2 a3 c3 a6 c6 a8 c8 a10 c10 a11 c11 ag cg at' ct l P l2 U G k2 O j y v := by
  rcases (show j = 0 ∨ j = 1 ∨ j = 2 ∨ j = 3 ∨ j = 4 ∨ j = 5 ∨ j = 6 ∨ j = 7 ∨ j = 8 ∨ j = 9 ∨ j = 10 ∨ j = 11 ∨ j = 12 ∨ j = 13 ∨ j = 14 ∨ j = 15 ∨ j = 16 ∨ j = 17 ∨ j = 18 ∨ j = 19 ∨ j = 20 ∨ j = 21 ∨ j = 22 ∨ j = 23 by omega) with rfl | rfl | rfl | rfl | rfl | rfl | rfl | rfl | rfl | rfl | rfl | rfl | rfl | rfl | rfl | rfl | rfl | rfl | rfl | rfl | rfl | rfl | rfl | rfl
  · exact h
  · exact h
  · exact h
  · exact h
  · exact h
  · exact h
  · exact h
  · exact h
  · exact h
  · exact h
  · exact h
  · exact h
  · exact h
  · exact h
  · obtain ⟨a1, c1, h1, h2⟩ := h; exact ⟨a1, c1, h1, h2.kept hb⟩
  · exact h
  · exact h
  · exact h
  · exact h
  · exact h
  · exact h
  · exact h
  · exact h
  · exact h
set_option maxRecDepth 100000 in
set_option maxHeartbeats 8000000 in
theorem fnShv (hiP : ∀ (q : Int) (v : Value) (l : List It) (key : ByteArray) (n : Int) (w : World), Sls itE w v l → l.length ≤ 1048576 → (∀ x ∈ l, x.1.size ≤ maxLen) → key.size ≤ maxLen → Calls Try.prog 29 #[shV q v, .string key, .int .i64 n] w fun e w' => ∃ u g, e = .returned (.tuple #[shV (usdQ q l) u, g]) ∧ HasI8 w' w.heap.size u (plaL q l key n) ∧ HasX w' w.heap.size g (plaG q l key n) ∧ Below w.heap.size w w')
    (hiU : ∀ (q : Int) (v : Value) (l : List It) (key : ByteArray) (w : World), Sls itE w v l → l.length ≤ 1048576 → (∀ x ∈ l, x.1.size ≤ maxLen) → Calls Try.prog 31 #[shV q v, .string key] w fun e w' => ∃ u, e = .returned (shV (usdQ q l) u) ∧ HasI8 w' w.heap.size u (usdL q l key) ∧ Below w.heap.size w w')
    (hiO : ∀ (q : Int) (v : Value) (l : List It) (w : World), Sls itE w v l → l.length ≤ 1048576 → (∀ x ∈ l, x.1.size ≤ maxLen) → Calls Try.prog 36 #[shV q v] w fun e w' => e = .returned (.bool (shOk q l)) ∧ Below w.heap.size w w')
    (sa : Option Addr) (sl sc : Nat) (zs : List Int) (w : World) (hw : IsRow w sa sl sc zs) :
    Calls Try.prog 5 #[.slice sa sl sc] w fun e w' => e = .returned (.bool true) ∧ Below w.heap.size w w' := by
  by_cases hbig : 4096 < sl
  · have hlen := hw.len
    clear hw
    go_enter Try.func5, Try.ntmps5
    go_wp2_with (go_at_call 13; refine (isBig sa sl sc _ hbig hlen).mono ?_; rintro e w1 ⟨rfl, rfl⟩)
    go_ret
    exact ⟨rfl, Below.refl _ _⟩
  · have hl : sl ≤ 4096 := by omega
    have h8 : Hid (Code8 w w.heap.size sa sl) := hw.code.code
    have hdP := drawPl l12Sh sa sl sc
    have hdU := drawUs l12Sh sa sl sc
    have hsU := fun q v l key w h h1 h2 => specUsd q v l key w h h1 h2
    have hsP := fun q v l key n w h h1 h2 h3 => spcPla q v l key n w h h1 h2 h3
    have hsO := fun q v l w h h1 => specSok q v l w h h1
    have hLk := fun q va vb l w ha hb hl => likeSh q va vb l w ha hb hl
    unfold shV at *
    clear hw hbig
    go_enter Try.func5, Try.ntmps5
    go_wp2_with fail
    refine (notBig sa sl sc _ hl).mono ?_
    rintro e w0 ⟨rfl, rfl⟩
    go_wp2_with fail
    refine (hdP _ h8.out hl).mono ?_
    rintro e w1 ⟨⟨q, u, l, k, n, rfl, ho1, hl51, hs1, hk19⟩, hb1⟩
    obtain ⟨a3, c3, rfl, _⟩ := ho1.form
    have bA := boxS w1 (.cells #[.int .i64 q, .slice a3 l.length c3] 34)
    have B2 : Hid (Below w.heap.size w (w1.alloc (.cells #[.int .i64 q, .slice a3 l.length c3] 34))) := (show Hid _ from pastS hb1 bA)
    have b3 : Hid (TwoB (w1.alloc (.cells #[.int .i64 q, .slice a3 l.length c3] 34)) w1.heap.size (.int .i64 q) (.slice a3 l.length c3)) := TwoB.new _ _ _ _
    have s3 : Hid (Sls itE (w1.alloc (.cells #[.int .i64 q, .slice a3 l.length c3] 34)) (.slice a3 l.length c3) l) := ho1.sls.kept bA
    have hmx : ∀ x ∈ l, x.1.size ≤ maxLen := fun x hx => Nat.le_trans (hs1 x hx) (by unfold maxLen; omega)
    have hkm : k.size ≤ maxLen := Nat.le_trans hk19 (by unfold maxLen; omega)
    have iP := fun W hW => hiP q (.slice a3 l.length c3) l k n W hW (by omega) hmx hkm
    have sP := fun W hW => hsP q (.slice a3 l.length c3) l k n W hW (by omega) hmx hkm
    have iO := fun W hW => hiO q (.slice a3 l.length c3) l W hW (by omega) hmx
    have sO := fun W hW => hsO q (.slice a3 l.length c3) l W hW hmx
    have hPl := plaL_few q l k n
    have hGl := plaL_many q l k n
    have hPs := plaL_short 19 q l k n hs1 hk19
    obtain ⟨P, hP⟩ : ∃ P, P = plaL q l k n := ⟨_, rfl⟩
    obtain ⟨G, hG⟩ : ∃ G, G = plaG q l k n := ⟨_, rfl⟩
    obtain ⟨Q, hQ⟩ : ∃ Q, Q = usdQ q l := ⟨_, rfl⟩
    obtain ⟨O, hO⟩ : ∃ O, O = shOk q l := ⟨_, rfl⟩
    have EP : Hid (P = plaL q l k n) := hP
    have EG : Hid (G = plaG q l k n) := hG
    have EQ : Hid (Q = usdQ q l) := hQ
    have EO : Hid (O = shOk q l) := hO
    rw [← hP, ← hG, ← hQ] at iP sP
    rw [← hO] at iO sO
    rw [← hP] at hPl hPs
    rw [← hG] at hGl
    have HPs : Hid (∀ x ∈ P, x.1.size ≤ maxLen) := (show Hid _ from fun x hx => Nat.le_trans (hPs x hx) (by unfold maxLen; omega))
    have Hl : Hid (∀ x ∈ l, x.1.size ≤ 19) := hs1
    clear hb1 ho1 bA hP hG hQ hO hs1 hmx hPs hkm hdP hiP hsP hsO
    go_wp2_with fail
    generalize hm3 : w1.heap.size = m3 at *
    generalize w1.alloc (.cells #[.int .i64 q, .slice a3 l.length c3] 34) = w2 at B2 b3 s3 ⊢
    refine (iP _ s3.out).mono ?_
    rintro e w3 ⟨u6, g6, rfl, ho3, hx3, hb3⟩
    obtain ⟨a6, c6, rfl, _⟩ := ho3.form
    obtain ⟨ag, cg, rfl, _⟩ := hx3.form
    have bA := boxS w3 (.cells #[.int .i64 Q, .slice a6 P.length c6] 34)
    have bB := hb3.trans (bA.mono hb3.size)
    have B4 : Hid (Below w.heap.size w (w3.alloc (.cells #[.int .i64 Q, .slice a6 P.length c6] 34))) := (show Hid _ from pastS B2.out bB)
    have b34 : Hid (TwoB (w3.alloc (.cells #[.int .i64 Q, .slice a6 P.length c6] 34)) m3 (.int .i64 q) (.slice a3 l.length c3)) := b3.out.kept bB b3.out.lt
    have s34 : Hid (Sls itE (w3.alloc (.cells #[.int .i64 Q, .slice a6 P.length c6] 34)) (.slice a3 l.length c3) l) := s3.out.kept bB
    have b64 : Hid (TwoB (w3.alloc (.cells #[.int .i64 Q, .slice a6 P.length c6] 34)) w3.heap.size (.int .i64 Q) (.slice a6 P.length c6)) := TwoB.new _ _ _ _
    have s64 : Hid (Sls itE (w3.alloc (.cells #[.int .i64 Q, .slice a6 P.length c6] 34)) (.slice a6 P.length c6) P) := ho3.sls.kept bA
    have x64 : Hid (Sls txtE (w3.alloc (.cells #[.int .i64 Q, .slice a6 P.length c6] 34)) (.slice ag G.length cg) G) := hx3.sls.kept bA
    clear hb3 ho3 hx3 bA bB b3 s3 B2 iP
    go_wp2_with fail
    generalize w3.heap.size = m6 at *
    generalize (w3.alloc (.cells #[.int .i64 Q, .slice a6 P.length c6] 34)) = w4 at B4 b34 s34 b64 s64 x64 ⊢
    refine (hdU _ ((h8.out.kept B4.out (Nat.le_refl _)).upS B4.out.size) hl).mono ?_
    rintro e w5 ⟨⟨q2, u2, l2, k2, rfl, ho5, hl2, hs2, hk2⟩, hb5⟩
    obtain ⟨a8, c8, rfl, _⟩ := ho5.form
    have bA := boxS w5 (.cells #[.int .i64 q2, .slice a8 l2.length c8] 34)
    have bB := hb5.trans (bA.mono hb5.size)
    have B6 : Hid (Below w.heap.size w (w5.alloc (.cells #[.int .i64 q2, .slice a8 l2.length c8] 34))) := (show Hid _ from pastS B4.out bB)
    have b36 : Hid (TwoB (w5.alloc (.cells #[.int .i64 q2, .slice a8 l2.length c8] 34)) m3 (.int .i64 q) (.slice a3 l.length c3)) := b34.out.kept bB b34.out.lt
    have s36 : Hid (Sls itE (w5.alloc (.cells #[.int .i64 q2, .slice a8 l2.length c8] 34)) (.slice a3 l.length c3) l) := s34.out.kept bB
    have b66 : Hid (TwoB (w5.alloc (.cells #[.int .i64 q2, .slice a8 l2.length c8] 34)) m6 (.int .i64 Q) (.slice a6 P.length c6)) := b64.out.kept bB b64.out.lt
    have s66 : Hid (Sls itE (w5.alloc (.cells #[.int .i64 q2, .slice a8 l2.length c8] 34)) (.slice a6 P.length c6) P) := s64.out.kept bB
    have x66 : Hid (Sls txtE (w5.alloc (.cells #[.int .i64 q2, .slice a8 l2.length c8] 34)) (.slice ag G.length cg) G) := x64.out.kept bB
    have b86 : Hid (TwoB (w5.alloc (.cells #[.int .i64 q2, .slice a8 l2.length c8] 34)) w5.heap.size (.int .i64 q2) (.slice a8 l2.length c8)) := TwoB.new _ _ _ _
    have s86 : Hid (Sls itE (w5.alloc (.cells #[.int .i64 q2, .slice a8 l2.length c8] 34)) (.slice a8 l2.length c8) l2) := ho5.sls.kept bA
    have hmx2 : ∀ x ∈ l2, x.1.size ≤ maxLen := fun x hx => Nat.le_trans (hs2 x hx) (by unfold maxLen; omega)
    have iU := fun W hW => hiU q2 (.slice a8 l2.length c8) l2 k2 W hW (by omega) hmx2
    have sU := fun W hW => hsU q2 (.slice a8 l2.length c8) l2 k2 W hW (by omega) hmx2
    have iO2 := fun W hW => hiO q2 (.slice a8 l2.length c8) l2 W hW (by omega) hmx2
    have hUl : (usdL q2 l2 k2).length ≤ 51 := by unfold usdL; split; rw [usdI_length]; exact hl2; exact Nat.zero_le _
    have hUs : ∀ x ∈ usdL q2 l2 k2, x.1.size ≤ maxLen := by
      intro x hx
      unfold usdL at hx
      split at hx
      · exact hmx2 x ((usdI_perm k2 l2).mem_iff.1 hx)
      · cases hx
    have hOU : shOk q2 l2 = true → shOk (usdQ q2 l2) (usdL q2 l2 k2) = true ∧ (usdL q2 l2 k2).length = l2.length := fun h => by
      unfold usdQ usdL
      rw [if_pos h, if_pos h]
      exact ⟨shOk_iff.2 (usdI_ok (shOk_iff.1 h)), usdI_length _ _⟩
    generalize usdL q2 l2 k2 = U at iU sU hUl hUs hOU
    generalize usdQ q2 l2 = Q2 at iU sU hOU
    generalize shOk q2 l2 = O2 at iO2 hOU
    have HUs : Hid (∀ x ∈ U, x.1.size ≤ maxLen) := hUs
    have HOU : Hid (O2 = true → shOk Q2 U = true ∧ U.length = l2.length) := hOU
    clear hb5 ho5 bA bB b34 s34 b64 s64 x64 B4 hdU hUs hOU hs2 hmx2 hiU hsU hk2 h8
    go_wp2_with fail
    generalize w5.heap.size = m8 at *
    generalize (w5.alloc (.cells #[.int .i64 q2, .slice a8 l2.length c8] 34)) = w6 at B6 b36 s36 b66 s66 x66 b86 s86 ⊢
    refine (iU _ s86.out).mono ?_
    rintro e w7 ⟨u10, rfl, ho7, hb7⟩
    obtain ⟨a10, c10, rfl, _⟩ := ho7.form
    have bA := boxS w7 (.cells #[.int .i64 Q2, .slice a10 U.length c10] 34)
    have bB := hb7.trans (bA.mono hb7.size)
    have y0 : w7.cell? ⟨m3, 0, none⟩ = some (.int .i64 q) := (b36.out.kept hb7 b36.out.lt).c0
    have y1 : w7.cell? ⟨m3, 1, none⟩ = some (.slice a3 l.length c3) := (b36.out.kept hb7 b36.out.lt).c1
    have yl : m3 < w7.heap.size := (b36.out.kept hb7 b36.out.lt).lt
    have B8 : Hid (Below w.heap.size w (w7.alloc (.cells #[.int .i64 Q2, .slice a10 U.length c10] 34))) := (show Hid _ from pastS B6.out bB)
    have b38 : Hid (TwoB (w7.alloc (.cells #[.int .i64 Q2, .slice a10 U.length c10] 34)) m3 (.int .i64 q) (.slice a3 l.length c3)) := b36.out.kept bB b36.out.lt
    have s38 : Hid (Sls itE (w7.alloc (.cells #[.int .i64 Q2, .slice a10 U.length c10] 34)) (.slice a3 l.length c3) l) := s36.out.kept bB
    have b68 : Hid (TwoB (w7.alloc (.cells #[.int .i64 Q2, .slice a10 U.length c10] 34)) m6 (.int .i64 Q) (.slice a6 P.length c6)) := b66.out.kept bB b66.out.lt
    have s68 : Hid (Sls itE (w7.alloc (.cells #[.int .i64 Q2, .slice a10 U.length c10] 34)) (.slice a6 P.length c6) P) := s66.out.kept bB
    have x68 : Hid (Sls txtE (w7.alloc (.cells #[.int .i64 Q2, .slice a10 U.length c10] 34)) (.slice ag G.length cg) G) := x66.out.kept bB
    have b88 : Hid (TwoB (w7.alloc (.cells #[.int .i64 Q2, .slice a10 U.length c10] 34)) m8 (.int .i64 q2) (.slice a8 l2.length c8)) := b86.out.kept bB b86.out.lt
    have s88 : Hid (Sls itE (w7.alloc (.cells #[.int .i64 Q2, .slice a10 U.length c10] 34)) (.slice a8 l2.length c8) l2) := s86.out.kept bB
    have b08 : Hid (TwoB (w7.alloc (.cells #[.int .i64 Q2, .slice a10 U.length c10] 34)) w7.heap.size (.int .i64 Q2) (.slice a10 U.length c10)) := TwoB.new _ _ _ _
    have s08 : Hid (Sls itE (w7.alloc (.cells #[.int .i64 Q2, .slice a10 U.length c10] 34)) (.slice a10 U.length c10) U) := ho7.sls.kept bA
    clear hb7 ho7 bA bB b36 s36 b66 s66 x66 b86 s86 B6 iU
    go_wp2_with fail
    clear y0 y1 yl
    generalize w7.heap.size = m10 at *
    generalize (w7.alloc (.cells #[.int .i64 Q2, .slice a10 U.length c10] 34)) = w8 at B8 b38 s38 b68 s68 x68 b88 s88 b08 s08 ⊢
    refine (sP _ s38.out).mono ?_
    rintro e w9 ⟨u11, g11, rfl, ho9, hx9, hb9⟩
    obtain ⟨a11, c11, rfl, _⟩ := ho9.form
    obtain ⟨at', ct, rfl, _⟩ := hx9.form
    have bA := boxS w9 (.cells #[.int .i64 Q, .slice a11 P.length c11] 34)
    have bB := hb9.trans (bA.mono hb9.size)
    have S0' : Hid (Sv w (w9.alloc (.cells #[.int .i64 Q, .slice a11 P.length c11] 34)) m3 m6 m8 m10 w9.heap.size q Q q2 Q2 a3 c3 a6 c6 a8 c8 a10 c10 a11 c11 ag cg at' ct l P l2 U G) :=
      ⟨pastS B8.out bB, b38.out.kept bB b38.out.lt, s38.out.kept bB, b68.out.kept bB b68.out.lt, s68.out.kept bB, x68.out.kept bB, b88.out.kept bB b88.out.lt, s88.out.kept bB, b08.out.kept bB b08.out.lt, s08.out.kept bB, TwoB.new _ _ _ _, ho9.sls.kept bA, hx9.sls.kept bA⟩
    clear hb9 ho9 hx9 bA bB b38 s38 b68 s68 x68 b88 s88 b08 s08 B8 sP
    go_wp2_with fail
    generalize w9.heap.size = m11 at *
    generalize (w9.alloc (.cells #[.int .i64 Q, .slice a11 P.length c11] 34)) = w10 at S0' ⊢
    have S0 : Sv w w10.drew m3 m6 m8 m10 m11 q Q q2 Q2 a3 c3 a6 c6 a8 c8 a10 c10 a11 c11 ag cg at' ct l P l2 U G := S0'.out.kept ⟨rfl, rfl, rfl, Nat.le_refl _, fun _ _ => rfl⟩
    have hL1 := fun W h1 h2 => hLk Q (.slice a6 P.length c6) (.slice a11 P.length c11) P W h1 h2 (by omega)
    have hL2 := fun u W h1 h2 => hLk Q2 (.slice a10 U.length c10) u U W h1 h2 (by omega)
    have hLt := fun W h1 h2 => likeTx (.slice ag G.length cg) (.slice at' G.length ct) G W h1 h2 (by omega)
    generalize hA : Act.mk _ _ = A
    obtain ⟨s, hs, s2_, s3_, s4_, s5_, s6_, s7_, s8_, s9_, s10_, s11_, s12_⟩ : ∃ s : Nat → Value, A = frSv s (fun _ => undef) ∧ s 2 = .bool false ∧ s 3 = .pointer (some ⟨m3, 0, none⟩) ∧ s 4 = .string k ∧ s 5 = .int .i64 n ∧ s 6 = .pointer (some ⟨m6, 0, none⟩) ∧ s 7 = .slice ag G.length cg ∧ s 8 = .pointer (some ⟨m8, 0, none⟩) ∧ s 9 = .string k2 ∧ s 10 = .pointer (some ⟨m10, 0, none⟩) ∧ s 11 = .pointer (some ⟨m11, 0, none⟩) ∧ s 12 = .slice at' G.length ct := by
      refine ⟨fun i => A.tmps.getD i undef, ?_, ?_, ?_, ?_, ?_, ?_, ?_, ?_, ?_, ?_, ?_, ?_⟩ <;> rw [← hA] <;> rfl
    rw [hs]
    clear hs hA
    refine region_heads 24 mixed (by decide) (by kernel_rfl) (by kernel_rfl) (by kernel_rfl) (by kernel_rfl) (frSv s) dSv (fun x => Sv w x m3 m6 m8 m10 m11 q Q q2 Q2 a3 c3 a6 c6 a8 c8 a10 c10 a11 c11 ag cg at' ct l P l2 U G) (GSv s q Q q2 Q2 a3 c3 a6 c6 a8 c8 a10 c10 a11 c11 ag cg at' ct l P l2 U G k2 O) (fun i j hi hj h => by unfold dSv; omega) ?put (fun _ => undef) rfl S0 ?step ?done
    case put =>
      intro i o hi ho t v
      rcases (show i = 0 ∨ i = 1 ∨ i = 2 ∨ i = 3 ∨ i = 4 ∨ i = 5 ∨ i = 6 ∨ i = 7 ∨ i = 8 ∨ i = 9 ∨ i = 10 ∨ i = 11 ∨ i = 12 ∨ i = 13 ∨ i = 14 ∨ i = 15 ∨ i = 16 ∨ i = 17 ∨ i = 18 ∨ i = 19 ∨ i = 20 ∨ i = 21 ∨ i = 22 ∨ i = 23 by omega) with rfl | rfl | rfl | rfl | rfl | rfl | rfl | rfl | rfl | rfl | rfl | rfl | rfl | rfl | rfl | rfl | rfl | rfl | rfl | rfl | rfl | rfl | rfl | rfl
      all_goals
        obtain rfl := Option.some.inj ho
        rfl
    case step =>
      intro i o hi ho t x hS hdep K hK
      rcases (show i = 0 ∨ i = 1 ∨ i = 2 ∨ i = 3 ∨ i = 4 ∨ i = 5 ∨ i = 6 ∨ i = 7 ∨ i = 8 ∨ i = 9 ∨ i = 10 ∨ i = 11 ∨ i = 12 ∨ i = 13 ∨ i = 14 ∨ i = 15 ∨ i = 16 ∨ i = 17 ∨ i = 18 ∨ i = 19 ∨ i = 20 ∨ i = 21 ∨ i = 22 ∨ i = 23 by omega) with rfl | rfl | rfl | rfl | rfl | rfl | rfl | rfl | rfl | rfl | rfl | rfl | rfl | rfl | rfl | rfl | rfl | rfl | rfl | rfl | rfl | rfl | rfl | rfl
      all_goals obtain rfl := Option.some.inj ho
      · have y0 := hS.b6.c0
        have y1 := hS.b6.c1
        have HK : Hid (K ((frSv s t).put (some 45) (.agg #[.int .i64 Q, .slice a6 P.length c6])) x) := hK _ _ hS (fun j u hj hne h => h) rfl
        have h2 := HK.out
        unfold frSv at h2 ⊢
        clear HK hK
        go_simp
        simpa [Act.put, y0, y1, s2_, s3_, s4_, s5_, s6_, s7_, s8_, s9_, s10_, s11_, s12_] using h2
      · have y0 := hS.b11.c0
        have y1 := hS.b11.c1
        have HK : Hid (K ((frSv s t).put (some 46) (.agg #[.int .i64 Q, .slice a11 P.length c11])) x) := hK _ _ hS (fun j u hj hne h => h) rfl
        have h2 := HK.out
        unfold frSv at h2 ⊢
        clear HK hK
        go_simp
        simpa [Act.put, y0, y1, s2_, s3_, s4_, s5_, s6_, s7_, s8_, s9_, s10_, s11_, s12_] using h2
      · have e0 : t 45 = .agg #[.int .i64 Q, .slice a6 P.length c6] := hdep { on := 0, ground := Ground.data } (by simp) rfl
        have e1 : t 46 = .agg #[.int .i64 Q, .slice a11 P.length c11] := hdep { on := 1, ground := Ground.data } (by simp) rfl
        refine callG2 (by rfl) 33 (.tmp 45) (.tmp 46) _ rfl (.agg #[.int .i64 Q, .slice a6 P.length c6]) (.agg #[.int .i64 Q, .slice a11 P.length c11]) e0 e1 (Go.Proofs.enters_of Try.func33 (by kernel_rfl) rfl _) (fun v y => v = .bool true ∧ Below x.heap.size x y) ((hL1 x hS.s6 hS.s11).mono ?_) ?_
        · rintro e y ⟨h0, h1⟩
          exact ⟨_, h0, rfl, h1⟩
        · rintro v y ⟨h0, hb2⟩
          exact hK v y (hS.kept hb2) (fun j u hj hne h => GSv.keep s q Q q2 Q2 a3 c3 a6 c6 a8 c8 a10 c10 a11 c11 ag cg at' ct l P l2 U G k2 O hb2 j u hj h) h0
      · have e2 : t 47 = .bool true := hdep { on := 2, ground := Ground.data } (by simp) rfl
        have HK : Hid (K ((frSv s t).put (some 48) (.bool false)) x) := hK _ _ hS (fun j u hj hne h => h) rfl
        have h2 := HK.out
        unfold frSv at h2 ⊢
        clear HK hK
        go_simp
        simpa [Act.put, e2, s2_, s3_, s4_, s5_, s6_, s7_, s8_, s9_, s10_, s11_, s12_] using h2
      · have e3 : t 48 = .bool false := hdep { on := 3, ground := Ground.data } (by simp) rfl
        have HK : Hid (K ((frSv s t).put (some 49) (.bool false)) x) := hK _ _ hS (fun j u hj hne h => h) rfl
        have h2 := HK.out
        unfold frSv at h2 ⊢
        clear HK hK
        go_simp
        simpa [Act.put, e3, s2_, s3_, s4_, s5_, s6_, s7_, s8_, s9_, s10_, s11_, s12_] using h2
      · have e4 : t 49 = .bool false := hdep { on := 4, ground := Ground.guard } (by simp) rfl
        have HK : Hid (K ((frSv s t).put (some 50) (.slice ag G.length cg)) x) := hK _ _ hS (fun j u hj hne h => h) rfl
        have h2 := HK.out
        unfold frSv at h2 ⊢
        clear HK hK
        go_simp
        simpa [Act.put, e4, s2_, s3_, s4_, s5_, s6_, s7_, s8_, s9_, s10_, s11_, s12_] using h2
      · have e4 : t 49 = .bool false := hdep { on := 4, ground := Ground.guard } (by simp) rfl
        have HK : Hid (K ((frSv s t).put (some 51) (.slice at' G.length ct)) x) := hK _ _ hS (fun j u hj hne h => h) rfl
        have h2 := HK.out
        unfold frSv at h2 ⊢
        clear HK hK
        go_simp
        simpa [Act.put, e4, s2_, s3_, s4_, s5_, s6_, s7_, s8_, s9_, s10_, s11_, s12_] using h2
      · have e5 : t 50 = .slice ag G.length cg := hdep { on := 5, ground := Ground.data } (by simp) rfl
        have e6 : t 51 = .slice at' G.length ct := hdep { on := 6, ground := Ground.data } (by simp) rfl
        have e4 : t 49 = .bool false := hdep { on := 4, ground := Ground.guard } (by simp) rfl
        refine callG2 (wantG 4 false rfl _ rfl 49 rfl (congrArg some e4)) 34 (.tmp 50) (.tmp 51) _ rfl (.slice ag G.length cg) (.slice at' G.length ct) e5 e6 (Go.Proofs.enters_of Try.func34 (by kernel_rfl) rfl _) (fun v y => v = .bool true ∧ Below x.heap.size x y) ((hLt x hS.xg hS.xt).mono ?_) ?_
        · rintro e y ⟨h0, h1⟩
          exact ⟨_, h0, rfl, h1.low⟩
        · rintro v y ⟨h0, hb2⟩
          exact hK v y (hS.kept hb2) (fun j u hj hne h => GSv.keep s q Q q2 Q2 a3 c3 a6 c6 a8 c8 a10 c10 a11 c11 ag cg at' ct l P l2 U G k2 O hb2 j u hj h) h0
      · have e7 : t 52 = .bool true := hdep { on := 7, ground := Ground.data } (by simp) rfl
        have e4 : t 49 = .bool false := hdep { on := 4, ground := Ground.guard } (by simp) rfl
        have HK : Hid (K ((frSv s t).put (some 53) (.bool false)) x) := hK _ _ hS (fun j u hj hne h => h) rfl
        have h2 := HK.out
        unfold frSv at h2 ⊢
        clear HK hK
        go_simp
        simpa [Act.put, e7, e4, s2_, s3_, s4_, s5_, s6_, s7_, s8_, s9_, s10_, s11_, s12_] using h2
      · have e4 : t 49 = .bool false := hdep { on := 4, ground := Ground.data } (by simp) rfl
        have e8 : t 53 = .bool false := hdep { on := 8, ground := Ground.data } (by simp) rfl
        have HK : Hid (K ((frSv s t).put (some 54) (.bool false)) x) := hK _ _ hS (fun j u hj hne h => h) rfl
        have h2 := HK.out
        unfold frSv at h2 ⊢
        clear HK hK
        go_simp
        simpa [Act.put, e4, e8, s2_, s3_, s4_, s5_, s6_, s7_, s8_, s9_, s10_, s11_, s12_] using h2
      · have e9 : t 54 = .bool false := hdep { on := 9, ground := Ground.data } (by simp) rfl
        have HK : Hid (K ((frSv s t).put (some 55) (.bool false)) x) := hK _ _ hS (fun j u hj hne h => h) rfl
        have h2 := HK.out
        unfold frSv at h2 ⊢
        clear HK hK
        go_simp
        simpa [Act.put, e9, s2_, s3_, s4_, s5_, s6_, s7_, s8_, s9_, s10_, s11_, s12_] using h2
      · have e10 : t 55 = .bool false := hdep { on := 10, ground := Ground.guard } (by simp) rfl
        have y0 := hS.b10.c0
        have y1 := hS.b10.c1
        have HK : Hid (K ((frSv s t).put (some 56) (.agg #[.int .i64 Q2, .slice a10 U.length c10])) x) := hK _ _ hS (fun j u hj hne h => h) rfl
        have h2 := HK.out
        unfold frSv at h2 ⊢
        clear HK hK
        go_simp
        simpa [Act.put, e10, y0, y1, s2_, s3_, s4_, s5_, s6_, s7_, s8_, s9_, s10_, s11_, s12_] using h2
      · have e10 : t 55 = .bool false := hdep { on := 10, ground := Ground.guard } (by simp) rfl
        have y0 := hS.b8.c0
        have y1 := hS.b8.c1
        have HK : Hid (K ((frSv s t).put (some 57) (.agg #[.int .i64 q2, .slice a8 l2.length c8])) x) := hK _ _ hS (fun j u hj hne h => h) rfl
        have h2 := HK.out
        unfold frSv at h2 ⊢
        clear HK hK
        go_simp
        simpa [Act.put, e10, y0, y1, s2_, s3_, s4_, s5_, s6_, s7_, s8_, s9_, s10_, s11_, s12_] using h2
      · have e10 : t 55 = .bool false := hdep { on := 10, ground := Ground.guard } (by simp) rfl
        have HK : Hid (K ((frSv s t).put (some 58) (.string k2)) x) := hK _ _ hS (fun j u hj hne h => h) rfl
        have h2 := HK.out
        unfold frSv at h2 ⊢
        clear HK hK
        go_simp
        simpa [Act.put, e10, s2_, s3_, s4_, s5_, s6_, s7_, s8_, s9_, s10_, s11_, s12_] using h2
      · have e12 : t 57 = .agg #[.int .i64 q2, .slice a8 l2.length c8] := hdep { on := 12, ground := Ground.data } (by simp) rfl
        have e13 : t 58 = .string k2 := hdep { on := 13, ground := Ground.data } (by simp) rfl
        have e10 : t 55 = .bool false := hdep { on := 10, ground := Ground.guard } (by simp) rfl
        refine callG2 (wantG 10 false rfl _ rfl 55 rfl (congrArg some e10)) 35 (.tmp 57) (.tmp 58) _ rfl (.agg #[.int .i64 q2, .slice a8 l2.length c8]) (.string k2) e12 e13 (Go.Proofs.enters_of Try.func35 (by kernel_rfl) rfl _) (fun v y => (∃ (a1 : Option Addr) (c1 : Nat), v = .agg #[.int .i64 Q2, .slice a1 U.length c1] ∧ Sls itE y (.slice a1 U.length c1) U) ∧ Below x.heap.size x y) ((sU x hS.s8).mono ?_) ?_
        · rintro e y ⟨u, h0, h1, h2⟩
          have h3 := h1.sls
          obtain ⟨a1, c1, rfl, _⟩ := h1.form
          exact ⟨_, h0, ⟨a1, c1, rfl, h3⟩, h2⟩
        · rintro v y ⟨h0, hb2⟩
          exact hK v y (hS.kept hb2) (fun j u hj hne h => GSv.keep s q Q q2 Q2 a3 c3 a6 c6 a8 c8 a10 c10 a11 c11 ag cg at' ct l P l2 U G k2 O hb2 j u hj h) h0
      · have e11 : t 56 = .agg #[.int .i64 Q2, .slice a10 U.length c10] := hdep { on := 11, ground := Ground.data } (by simp) rfl
        have e10 : t 55 = .bool false := hdep { on := 10, ground := Ground.guard } (by simp) rfl
        have e14 : ∃ (a1 : Option Addr) (c1 : Nat), t 59 = .agg #[.int .i64 Q2, .slice a1 U.length c1] ∧ Sls itE x (.slice a1 U.length c1) U := hdep { on := 14, ground := Ground.data } (by simp) rfl
        obtain ⟨a1, c1, e14, hy⟩ := e14
        refine callG2 (wantG 10 false rfl _ rfl 55 rfl (congrArg some e10)) 33 (.tmp 56) (.tmp 59) _ rfl (.agg #[.int .i64 Q2, .slice a10 U.length c10]) (.agg #[.int .i64 Q2, .slice a1 U.length c1]) e11 e14 (Go.Proofs.enters_of Try.func33 (by kernel_rfl) rfl _) (fun v y => v = .bool true ∧ Below x.heap.size x y) ((hL2 (.slice a1 U.length c1) x hS.s10 hy).mono ?_) ?_
        · rintro e y ⟨h0, h1⟩
          exact ⟨_, h0, rfl, h1⟩
        · rintro v y ⟨h0, hb2⟩
          exact hK v y (hS.kept hb2) (fun j u hj hne h => GSv.keep s q Q q2 Q2 a3 c3 a6 c6 a8 c8 a10 c10 a11 c11 ag cg at' ct l P l2 U G k2 O hb2 j u hj h) h0
      · have e15 : t 60 = .bool true := hdep { on := 15, ground := Ground.data } (by simp) rfl
        have e10 : t 55 = .bool false := hdep { on := 10, ground := Ground.guard } (by simp) rfl
        have HK : Hid (K ((frSv s t).put (some 61) (.bool false)) x) := hK _ _ hS (fun j u hj hne h => h) rfl
        have h2 := HK.out
        unfold frSv at h2 ⊢
        clear HK hK
        go_simp
        simpa [Act.put, e15, e10, s2_, s3_, s4_, s5_, s6_, s7_, s8_, s9_, s10_, s11_, s12_] using h2
      · have e10 : t 55 = .bool false := hdep { on := 10, ground := Ground.data } (by simp) rfl
        have e16 : t 61 = .bool false := hdep { on := 16, ground := Ground.data } (by simp) rfl
        have HK : Hid (K ((frSv s t).put (some 62) (.bool false)) x) := hK _ _ hS (fun j u hj hne h => h) rfl
        have h2 := HK.out
        unfold frSv at h2 ⊢
        clear HK hK
        go_simp
        simpa [Act.put, e10, e16, s2_, s3_, s4_, s5_, s6_, s7_, s8_, s9_, s10_, s11_, s12_] using h2
      · have e17 : t 62 = .bool false := hdep { on := 17, ground := Ground.data } (by simp) rfl
        have HK : Hid (K ((frSv s t).put (some 63) (.bool false)) x) := hK _ _ hS (fun j u hj hne h => h) rfl
        have h2 := HK.out
        unfold frSv at h2 ⊢
        clear HK hK
        go_simp
        simpa [Act.put, e17, s2_, s3_, s4_, s5_, s6_, s7_, s8_, s9_, s10_, s11_, s12_] using h2
      · have e18 : t 63 = .bool false := hdep { on := 18, ground := Ground.guard } (by simp) rfl
        have y0 := hS.b3.c0
        have y1 := hS.b3.c1
        have HK : Hid (K ((frSv s t).put (some 64) (.agg #[.int .i64 q, .slice a3 l.length c3])) x) := hK _ _ hS (fun j u hj hne h => h) rfl
        have h2 := HK.out
        unfold frSv at h2 ⊢
        clear HK hK
        go_simp
        simpa [Act.put, e18, y0, y1, s2_, s3_, s4_, s5_, s6_, s7_, s8_, s9_, s10_, s11_, s12_] using h2
      · have e19 : t 64 = .agg #[.int .i64 q, .slice a3 l.length c3] := hdep { on := 19, ground := Ground.data } (by simp) rfl
        have e18 : t 63 = .bool false := hdep { on := 18, ground := Ground.guard } (by simp) rfl
        refine callG1 (wantG 18 false rfl _ rfl 63 rfl (congrArg some e18)) 36 (.tmp 64) _ rfl (.agg #[.int .i64 q, .slice a3 l.length c3]) e19 (Go.Proofs.enters_of Try.func36 (by kernel_rfl) rfl _) (fun v y => v = .bool O ∧ Below x.heap.size x y) ((iO x hS.s3).mono ?_) ?_
        · rintro e y ⟨h0, h1⟩
          exact ⟨_, h0, rfl, h1⟩
        · rintro v y ⟨h0, hb2⟩
          exact hK v y (hS.kept hb2) (fun j u hj hne h => GSv.keep s q Q q2 Q2 a3 c3 a6 c6 a8 c8 a10 c10 a11 c11 ag cg at' ct l P l2 U G k2 O hb2 j u hj h) h0
      · have e18 : t 63 = .bool false := hdep { on := 18, ground := Ground.guard } (by simp) rfl
        have y0 := hS.b3.c0
        have y1 := hS.b3.c1
        have HK : Hid (K ((frSv s t).put (some 66) (.agg #[.int .i64 q, .slice a3 l.length c3])) x) := hK _ _ hS (fun j u hj hne h => h) rfl
        have h2 := HK.out
        unfold frSv at h2 ⊢
        clear HK hK
        go_simp
        simpa [Act.put, e18, y0, y1, s2_, s3_, s4_, s5_, s6_, s7_, s8_, s9_, s10_, s11_, s12_] using h2
      · have e21 : t 66 = .agg #[.int .i64 q, .slice a3 l.length c3] := hdep { on := 21, ground := Ground.data } (by simp) rfl
        have e18 : t 63 = .bool false := hdep { on := 18, ground := Ground.guard } (by simp) rfl
        refine callG1 (wantG 18 false rfl _ rfl 63 rfl (congrArg some e18)) 37 (.tmp 66) _ rfl (.agg #[.int .i64 q, .slice a3 l.length c3]) e21 (Go.Proofs.enters_of Try.func37 (by kernel_rfl) rfl _) (fun v y => v = .bool O ∧ Below x.heap.size x y) ((sO x hS.s3).mono ?_) ?_
        · rintro e y ⟨h0, h1⟩
          exact ⟨_, h0, rfl, h1⟩
        · rintro v y ⟨h0, hb2⟩
          exact hK v y (hS.kept hb2) (fun j u hj hne h => GSv.keep s q Q q2 Q2 a3 c3 a6 c6 a8 c8 a10 c10 a11 c11 ag cg at' ct l P l2 U G k2 O hb2 j u hj h) h0
      · have e20 : t 65 = .bool O := hdep { on := 20, ground := Ground.data } (by simp) rfl
        have e22 : t 67 = .bool O := hdep { on := 22, ground := Ground.data } (by simp) rfl
        have e18 : t 63 = .bool false := hdep { on := 18, ground := Ground.guard } (by simp) rfl
        have dO : (O != O) = false := by simp
        have HK : Hid (K ((frSv s t).put (some 68) (.bool false)) x) := hK _ _ hS (fun j u hj hne h => h) rfl
        have h2 := HK.out
        unfold frSv at h2 ⊢
        clear HK hK
        go_simp
        simpa [Act.put, e20, e22, e18, dO, s2_, s3_, s4_, s5_, s6_, s7_, s8_, s9_, s10_, s11_, s12_] using h2
    case done =>
      intro t x hS hG
      have e18 : t 63 = .bool false := hG 18 (by decide)
      have e23 : t 68 = .bool false := hG 23 (by decide)
      clear hG
      show wpList Try.prog _ _ [_] _ x
      unfold frSv
      simp only [e18, e23, s2_, s3_, s4_, s5_, s6_, s7_, s8_, s9_, s10_, s11_, s12_]
      clear e18 e23 s2_ s3_ s4_ s5_ s6_ s7_ s8_ s9_ s10_ s11_ s12_ S0' S0 hL2 hLt sO sU
      obtain ⟨w11, rfl⟩ : ∃ z, z = x := ⟨x, rfl⟩
      have S6 : Hid (Sv w w11 m3 m6 m8 m10 m11 q Q q2 Q2 a3 c3 a6 c6 a8 c8 a10 c10 a11 c11 ag cg at' ct l P l2 U G) := hS
      clear hS
      go_upto_region 10 with fail
      have hi3 := fun W hW => hiO Q2 (.slice a10 U.length c10) U W hW (by omega) HUs.out
      go_cut [85] from 70 to 85 (fun s wx => s = .bool false ∧ Hid (Sv w wx m3 m6 m8 m10 m11 q Q q2 Q2 a3 c3 a6 c6 a8 c8 a10 c10 a11 c11 ag cg at' ct l P l2 U G))
      case first =>
        have y0 := S6.out.b8.c0
        have y1 := S6.out.b8.c1
        go_wp2_with fail
        refine (iO2 _ S6.out.s8).mono ?_
        rintro e w12 ⟨rfl, hb12⟩
        have S7 : Hid (Sv w w12 m3 m6 m8 m10 m11 q Q q2 Q2 a3 c3 a6 c6 a8 c8 a10 c10 a11 c11 ag cg at' ct l P l2 U G) := S6.out.kept hb12
        clear S6 hb12 y0 y1
        cases O2 with
        | false =>
          go_wp2_with fail
          go_meet
          exact ⟨rfl, S7⟩
        | true =>
          obtain ⟨h1, h2⟩ := HOU.out rfl
          rw [h1] at hi3
          have H2 : Hid (U.length = l2.length) := h2
          have y0 := S7.out.b10.c0
          have y1 := S7.out.b10.c1
          clear h1 h2
          go_wp2_with fail
          refine (hi3 _ S7.out.s10).mono ?_
          rintro e w13 ⟨rfl, hb13⟩
          have S8 : Hid (Sv w w13 m3 m6 m8 m10 m11 q Q q2 Q2 a3 c3 a6 c6 a8 c8 a10 c10 a11 c11 ag cg at' ct l P l2 U G) := S7.out.kept hb13
          clear S7 hb13 y0 y1
          have y0 := S8.out.b10.c0
          have y1 := S8.out.b10.c1
          have z0 := S8.out.b8.c0
          have z1 := S8.out.b8.c1
          have hd : ((U.length : Int) != (l2.length : Int)) = false := by rw [H2.out]; simp
          go_wp2_with fail
          go_meet
          exact ⟨rfl, S8⟩
      case rest =>
        obtain ⟨rfl, S9⟩ := hcut
        obtain ⟨w14, rfl⟩ : ∃ z, z = wc := ⟨wc, rfl⟩
        clear S6 iO2 hi3 HOU HUs
        have y0 := S9.out.b3.c0
        have y1 := S9.out.b3.c1
        go_wp2_with fail
        refine (iO _ S9.out.s3).mono ?_
        rintro e w15 ⟨rfl, hb15⟩
        have S10 : Hid (Sv w w15 m3 m6 m8 m10 m11 q Q q2 Q2 a3 c3 a6 c6 a8 c8 a10 c10 a11 c11 ag cg at' ct l P l2 U G) := S9.out.kept hb15
        clear S9 hb15 y0 y1 iO
        cases O with
        | false =>
          obtain rfl : P = [] := by rw [EP.out]; unfold plaL; rw [← EO.out]; rfl
          obtain rfl : G = [] := by rw [EG.out]; unfold plaG; rw [← EO.out]; rfl
          obtain rfl : Q = 0 := by rw [EQ.out]; unfold usdQ; rw [← EO.out]; rfl
          have y0 : w15.cell? ⟨m6, 0, none⟩ = some (.int .i64 0) := S10.out.b6.c0
          have y1 : w15.cell? ⟨m6, 1, none⟩ = some (.slice a6 0 c6) := S10.out.b6.c1
          have hz := fun W h1 => hLk 0 (.slice a6 0 c6) (.slice none 0 0) [] W h1 ⟨none, 0, rfl, Nat.le_refl _, Nat.zero_le _, fun h => absurd h (by simp)⟩ (by simp)
          have hs6 : Hid (Sls itE w15 (.slice a6 0 c6) []) := S10.out.s6
          have hlo : Hid (Below w.heap.size w w15) := S10.out.low
          clear S10 EP EG EQ EO HPs hPl hGl hL1
          simp only [List.length_nil]
          go_wp2_with fail
          refine (hz _ hs6.out).mono ?_
          rintro e w16 ⟨rfl, hb16⟩
          have hlo2 : Hid (Below w.heap.size w w16) := (show Hid _ from pastS hlo.out hb16)
          clear hlo hb16 y0 y1 hs6 hz
          go_wp2_with fail
          go_ret
          exact ⟨rfl, hlo2.out⟩
        | true =>
          obtain rfl : q = Q := by rw [EQ.out]; unfold usdQ; rw [← EO.out]; rfl
          have y0 := S10.out.b3.c0
          have y1 := S10.out.b3.c1
          have hk5 : ¬ (500 : Int) < (k.size : Int) := by omega
          have hNo : (n < 1 ∨ q < n) → P = l ∧ G = [] := fun h => by
            have hi : itOk q (k, n) = false := by
              cases e : itOk q (k, n) with
              | false => rfl
              | true => have := itOk_iff.1 e; simp only at this; omega
            rw [EP.out, EG.out]
            unfold plaL plaG
            rw [← EO.out, hi]
            exact ⟨rfl, rfl⟩
          by_cases hn1 : n < 1
          · obtain ⟨rfl, rfl⟩ := hNo (.inl hn1)
            have z0 := S10.out.b6.c0
            have z1 := S10.out.b6.c1
            have hz := fun W h1 h2 => hLk q (.slice a6 P.length c6) (.slice a3 P.length c3) P W h1 h2 (by omega)
            have hlo : Hid (Below w.heap.size w w15) := S10.out.low
            have h6 : Hid (Sls itE w15 (.slice a6 P.length c6) P) := S10.out.s6
            have h3 : Hid (Sls itE w15 (.slice a3 P.length c3) P) := S10.out.s3
            clear S10 EP EG EQ EO HPs hPl hGl hL1 hNo
            simp only [List.length_nil]
            go_wp2_with fail
            refine (hz _ h6.out h3.out).mono ?_
            rintro e w16 ⟨rfl, hb16⟩
            have hlo2 : Hid (Below w.heap.size w w16) := (show Hid _ from pastS hlo.out hb16)
            clear hlo hb16 y0 y1 z0 z1 h6 h3 hz
            go_wp2_with fail
            go_ret
            exact ⟨rfl, hlo2.out⟩
          · by_cases hn2 : q < n
            · obtain ⟨rfl, rfl⟩ := hNo (.inr hn2)
              have z0 := S10.out.b6.c0
              have z1 := S10.out.b6.c1
              have hz := fun W h1 h2 => hLk q (.slice a6 P.length c6) (.slice a3 P.length c3) P W h1 h2 (by omega)
              have hlo : Hid (Below w.heap.size w w15) := S10.out.low
              have h6 : Hid (Sls itE w15 (.slice a6 P.length c6) P) := S10.out.s6
              have h3 : Hid (Sls itE w15 (.slice a3 P.length c3) P) := S10.out.s3
              clear S10 EP EG EQ EO HPs hPl hGl hL1 hNo
              simp only [List.length_nil]
              go_wp2_with fail
              refine (hz _ h6.out h3.out).mono ?_
              rintro e w16 ⟨rfl, hb16⟩
              have hlo2 : Hid (Below w.heap.size w w16) := (show Hid _ from pastS hlo.out hb16)
              clear hlo hb16 y0 y1 z0 z1 h6 h3 hz
              go_wp2_with fail
              go_ret
              exact ⟨rfl, hlo2.out⟩
            · have hi : itOk q (k, n) = true := itOk_iff.2 ⟨by show k.size ≤ 500; omega, by show 1 ≤ n; omega, by show n ≤ q; omega⟩
              have hOl := shOk_iff.1 EO.out.symm
              have hPp : P = kept q (allI k n l) := by rw [EP.out]; unfold plaL; rw [← EO.out, hi]; rfl
              have hGp : G = goneI (allI k n l) (keepN q (allI k n l) (allI k n l).length) := by rw [EG.out]; unfold plaG; rw [← EO.out, hi]; rfl
              have hD : Hid (∀ x ∈ P, ∀ y ∈ G, x.1 ≠ y) := (show ∀ _, _ from fun x hx y hy => gone_out (allI_keys hOl.keys) (hPp ▸ hx) (hGp ▸ hy))
              have hOkP : shOk q P = true := by rw [hPp]; exact shOk_iff.2 (placed_ok hOl (by omega) ⟨by omega, by omega⟩)
              have hFr : Hid (∃ t, P = (k, n) :: t) := by rw [hPp]; exact placed_front (by omega)
              have iX := fun W hW => hiO q (.slice a6 P.length c6) P W hW (by omega) HPs.out
              rw [hOkP] at iX
              clear hi hOl hPp hGp hOkP hNo EP EG EO EQ HPs hL1 hLk hiO
              go_wp2_with fail
              clear y0 y1
              go_loopw [13] (fun i wr => ∃ a : Nat, a ≤ G.length ∧ i = .int .i64 a ∧ Hid (Sv w wr m3 m6 m8 m10 m11 q q q2 Q2 a3 c3 a6 c6 a8 c8 a10 c10 a11 c11 ag cg at' ct l P l2 U G)) (fun i _ => G.length - (intOf i).toNat)
              case atStart => exact ⟨0, Nat.zero_le _, rfl, S10⟩
              case round =>
                clear S10
                obtain ⟨a, ha, rfl, S11⟩ := hrel
                by_cases hlt : a < G.length
                · have hli : (a : Int) < (G.length : Int) := by omega
                  go_wp2_with fail
                  obtain ⟨wo, rfl⟩ : ∃ wo, wo = wr := ⟨_, rfl⟩
                  go_loopw [14] (fun j wr => ∃ b : Nat, b ≤ P.length ∧ j = .int .i64 b ∧ Hid (Sv w wr m3 m6 m8 m10 m11 q q q2 Q2 a3 c3 a6 c6 a8 c8 a10 c10 a11 c11 ag cg at' ct l P l2 U G)) (fun j _ => P.length - (intOf j).toNat)
                  case atStart => exact ⟨0, Nat.zero_le _, rfl, S11⟩
                  case round =>
                    clear S11
                    obtain ⟨b, hb, rfl, S12⟩ := hrel
                    have y0 := S12.out.b6.c0
                    have y1 := S12.out.b6.c1
                    by_cases hlb : b < P.length
                    · have hbi : (b : Int) < (P.length : Int) := by omega
                      obtain ⟨_, _, he6, _, _, h6⟩ := S12.out.s6.itm
                      injection he6 with e61 _ e62
                      obtain ⟨g6, o6, ea6, hg6, hc6⟩ := h6 (by omega)
                      rw [← e61] at ea6
                      obtain ⟨_, _, heg, _, _, hg⟩ := S12.out.xg.txtL
                      injection heg with eg1 _ eg2
                      obtain ⟨gg, og, eag, hgg, hcg⟩ := hg (by omega)
                      rw [← eg1] at eag
                      have c1 := (hc6 b hlb).1
                      have d3 := hcg a hlt
                      have hne : (P[b].1.toList == G[a].toList) = false := sameS_no (hD.out _ (List.getElem_mem hlb) _ (List.getElem_mem hlt))
                      generalize P[b].1 = x1 at c1 hne
                      generalize G[a] = x2 at d3 hne
                      clear h6 hg hc6 hcg e61 e62 eg1 eg2
                      subst ea6 eag
                      go_wp2_with fail
                      go_quiet (fail)
                      have S13 : Hid (Sv w (wr.drewN nq) m3 m6 m8 m10 m11 q q q2 Q2 a3 c3 (some ⟨g6, o6, none⟩) c6 a8 c8 a10 c10 a11 c11 (some ⟨gg, og, none⟩) cg at' ct l P l2 U G) := S12.out.kept ⟨rfl, rfl, rfl, Nat.le_refl _, fun _ _ => rfl⟩
                      clear S12 y0 y1 c1 d3
                      generalize wr.drewN nq = w16 at S13 ⊢
                      go_wp2_with fail
                      go_roundw
                      case rel => exact ⟨b + 1, by omega, by go_num, S13⟩
                      case measure => simp [intOf]; omega
                    · obtain rfl : b = P.length := by omega
                      go_wp2_with fail
                      go_roundw
                      case rel => exact ⟨a + 1, by omega, by go_num, S12⟩
                      case measure => simp [intOf]; omega
                · obtain rfl : a = G.length := by omega
                  have y0 := S11.out.b6.c0
                  have y1 := S11.out.b6.c1
                  go_wp2_with fail
                  refine (iX _ S11.out.s6).mono ?_
                  rintro e w17 ⟨rfl, hb17⟩
                  have S14 : Hid (Sv w w17 m3 m6 m8 m10 m11 q q q2 Q2 a3 c3 a6 c6 a8 c8 a10 c10 a11 c11 ag cg at' ct l P l2 U G) := S11.out.kept hb17
                  clear S11 hb17 y0 y1 iX
                  have y0 := S14.out.b6.c0
                  have y1 := S14.out.b6.c1
                  obtain ⟨t', ht⟩ := hFr.out
                  have hP0 : 0 < P.length := by rw [ht]; simp
                  have hPi : (0 : Int) < (P.length : Int) := by omega
                  obtain ⟨_, _, he6, _, _, h6⟩ := S14.out.s6.itm
                  injection he6 with e61 _ e62
                  obtain ⟨g6, o6, ea6, hg6, hc6⟩ := h6 hP0
                  rw [← e61] at ea6
                  have c1 : w17.cell? ⟨g6, o6, none⟩ = some (.string k) := by have := (hc6 0 hP0).1; simpa [ht] using this
                  have c2 : w17.cell? ⟨g6, o6 + 1, none⟩ = some (.int .i64 n) := by have := (hc6 0 hP0).2; simpa [ht] using this
                  have hlo : Hid (Below w.heap.size w w17) := S14.out.low
                  have hne : (k.toList == k.toList) = true := by simp
                  clear ht t' h6 hc6 e61 e62 S14 hFr hD
                  subst ea6
                  go_wp2_with fail
                  go_ret
                  exact ⟨rfl, hlo.out⟩
end Go.Proofs.Ytnnmbgenepfacaa

/-
  The walk of the law FnSketches, given what the program's functions answer.
-/
import Derived.Test.YtdoolnaekmffbaaSkW0
import Derived.Test.YtdoolnaekmffbaaRgS
import Derived.Shelf.Abstract
namespace Go.Proofs.Ytdoolnaekmffbaa
open Go.RowKit Go.Sort Ow Sk
set_option linter.unusedVariables false
set_option linter.unusedSimpArgs false

def frSk (s t : Nat → Value) : Act := { tmps := #[s 0, s 1, s 2, s 3, s 4, s 5, s 6, s 7, s 8, s 9, s 10, s 11, s 12, s 13, s 14, s 15, s 16, s 17, s 18, s 19, s 20, s 21, s 22, s 23, s 24, s 25, s 26, s 27, s 28, s 29, s 30, s 31, s 32, s 33, s 34, s 35, s 36, s 37, s 38, s 39, s 40, s 41, s 42, s 43, s 44, s 45, s 46, s 47, s 48, s 49, s 50, s 51, s 52, s 53, s 54, s 55, s 56, s 57, s 58, s 59, s 60, s 61, s 62, s 63, s 64, s 65, s 66, t 67, t 68, t 69, t 70, t 71, t 72, t 73, t 74, t 75, t 76, t 77, t 78, t 79, t 80, t 81, t 82, t 83, t 84, t 85, t 86, t 87, t 88, t 89, t 90, t 91, t 92, t 93, t 94, t 95, t 96, t 97, t 98, t 99, t 100, t 101, t 102, t 103, t 104, t 105, t 106, t 107, t 108, s 109, s 110, s 111, s 112, s 113, s 114, s 115, s 116, s 117, s 118, s 119, s 120, s 121, s 122, s 123, s 124, s 125, s 126, s 127, s 128, s 129, s 130, s 131, s 132, s 133, s 134, s 135, s 136, s 137, s 138, s 139, s 140, s 141, s 142, s 143, s 144, s 145, s 146, s 147, s 148, s 149, s 150, s 151, s 152, s 153, s 154, s 155, s 156, s 157, s 158, s 159, s 160, s 161, s 162, s 163, s 164, s 165, s 166, s 167, s 168, s 169, s 170, s 171, s 172, s 173, s 174, s 175, s 176, s 177, s 178, s 179, s 180, s 181, s 182, s 183, s 184, s 185, s 186, s 187, s 188, s 189, s 190, s 191, s 192], defers := [] }
def dSk (i : Nat) : Nat := i + 67
def GSk (bb PB OO : Bool) (k t11 t13 : ByteArray) (n12 : Int) (MM : List Int) (q3 q5 q8 q10 : Int) (l3 l5 l8 l10 : List Int) (a3 a5 a8 a10 a17 : Option Addr) (c3 c5 c8 c10 c17 : Nat) (i : Nat) (x : World) (v : Value) : Prop := match i with
  | 0 => v = .bool bb
  | 1 => v = .bool bb
  | 2 => v = .bool false
  | 3 => v = .bool false
  | 4 => v = .agg #[.int .i64 q8, .slice a8 l8.length c8]
  | 5 => v = .agg #[.int .i64 q8, .slice a17 l8.length c17]
  | 6 => v = .bool true
  | 7 => v = .bool false
  | 8 => v = .bool false
  | 9 => v = .bool false
  | 10 => v = .agg #[.int .i64 q5, .slice a5 l5.length c5]
  | 11 => v = .agg #[.int .i64 q3, .slice a3 l3.length c3]
  | 12 => v = .string k
  | 13 => ∃ (p1 : Option Addr) (d1 : Nat), v = .agg #[.int .i64 q5, .slice p1 l5.length d1] ∧ Sls intE x (.slice p1 l5.length d1) l5
  | 14 => v = .bool true
  | 15 => v = .bool false
  | 16 => v = .bool false
  | 17 => v = .bool false
  | 18 => v = .agg #[.int .i64 q10, .slice a10 l10.length c10]
  | 19 => v = .string t11
  | 20 => v = .bool PB
  | 21 => v = .agg #[.int .i64 q10, .slice a10 l10.length c10]
  | 22 => v = .string t11
  | 23 => v = .bool PB
  | 24 => v = .bool false
  | 25 => v = .bool false
  | 26 => v = .bool false
  | 27 => v = .int .i64 n12
  | 28 => v = .string t13
  | 29 => ∃ (p1 : Option Addr) (d1 : Nat), v = .slice p1 MM.length d1 ∧ Sls intE x (.slice p1 MM.length d1) MM
  | 30 => v = .int .i64 n12
  | 31 => v = .string t13
  | 32 => ∃ (p1 : Option Addr) (d1 : Nat), v = .slice p1 MM.length d1 ∧ Sls intE x (.slice p1 MM.length d1) MM
  | 33 => v = .bool true
  | 34 => v = .bool false
  | 35 => v = .bool false
  | 36 => v = .bool false
  | 37 => v = .agg #[.int .i64 q3, .slice a3 l3.length c3]
  | 38 => v = .bool OO
  | 39 => v = .agg #[.int .i64 q3, .slice a3 l3.length c3]
  | 40 => v = .bool OO
  | 41 => v = .bool false
  | _ => True
theorem GSk.keep {bb PB OO : Bool} {k t11 t13 : ByteArray} {n12 : Int} {MM : List Int} {q3 q5 q8 q10 : Int} {l3 l5 l8 l10 : List Int} {a3 a5 a8 a10 a17 : Option Addr} {c3 c5 c8 c10 c17 : Nat} {x y : World} (hb : Below x.heap.size x y) (j : Nat) (v : Value) (hj : j < 42) (h : GSk bb PB OO k t11 t13 n12 MM q3 q5 q8 q10 l3 l5 l8 l10 a3 a5 a8 a10 a17 c3 c5 c8 c10 c17 j x v) : GSk bb PB OO k t11 t13 n12 MM q3 q5 q8 q10 l3 l5 l8 l10 a3 a5 a8 a10 a17 c3 c5 c8 c10 c17 j y v := by
  rcases (show j = 0 ∨ j = 1 ∨ j = 2 ∨ j = 3 ∨ j = 4 ∨ j = 5 ∨ j = 6 ∨ j = 7 ∨ j = 8 ∨ j = 9 ∨ j = 10 ∨ j = 11 ∨ j = 12 ∨ j = 13 ∨ j = 14 ∨ j = 15 ∨ j = 16 ∨ j = 17 ∨ j = 18 ∨ j = 19 ∨ j = 20 ∨ j = 21 ∨ j = 22 ∨ j = 23 ∨ j = 24 ∨ j = 25 ∨ j = 26 ∨ j = 27 ∨ j = 28 ∨ j = 29 ∨ j = 30 ∨ j = 31 ∨ j = 32 ∨ j = 33 ∨ j = 34 ∨ j = 35 ∨ j = 36 ∨ j = 37 ∨ j = 38 ∨ j = 39 ∨ j = 40 ∨ j = 41 by omega) with rfl | rfl | rfl | rfl | rfl | rfl | rfl | rfl | rfl | rfl | rfl | rfl | rfl | rfl | rfl | rfl | rfl | rfl | rfl | rfl | rfl | rfl | rfl | rfl | rfl | rfl | rfl | rfl | rfl | rfl | rfl | rfl | rfl | rfl | rfl | rfl | rfl | rfl | rfl | rfl | rfl | rfl
  · exact h
  · exact h
  · exact h
  · exact h
  · exact h
  · exact h
  · exact h
  · exact h
  · exact h
  · exact h
  · exact h
  · exact h
  · exact h
  · obtain ⟨p1, d1, h1, h2⟩ := h; exact ⟨p1, d1, h1, h2.kept hb⟩
  · exact h
  · exact h
  · exact h
  · exact h
  · exact h
  · exact h
  · exact h
  · exact h
  · exact h
  · exact h
  · exact h
  · exact h
  · exact h
  · exact h
  · exact h
  · obtain ⟨p1, d1, h1, h2⟩ := h; exact ⟨p1, d1, h1, h2.kept hb⟩
  · exact h
  · exact h
  · obtain ⟨p1, d1, h1, h2⟩ := h; exact ⟨p1, d1, h1, h2.kept hb⟩
  · exact h
  · exact h
  · exact h
  · exact h
  · exact h
  · exact h
  · exact h
  · exact h
  · exact h
set_option maxRecDepth 100000 in
set_option maxHeartbeats 16000000 in
theorem fnSk (hiM : ∀ (n : Int) (v : Value) (l : List Int) (key : ByteArray) (w : World), Sls intE w v l → key.size ≤ 1048576 → Calls Try.prog 12 #[skV n v, .string key] w fun e w' => ∃ u, e = .returned (skV (mrkQ n l) u) ∧ HasN w' w.heap.size u (mrkL n l key) ∧ Below w.heap.size w w')
    (hiB : ∀ (n : Int) (v : Value) (l : List Int) (n2 : Int) (v2 : Value) (l2 : List Int) (w : World), Sls intE w v l → Sls intE w v2 l2 → Calls Try.prog 14 #[skV n v, skV n2 v2] w fun e w' => ∃ u, e = .returned (.tuple #[skV (bthQ n l n2 l2) u, .bool (bthB n l n2 l2)]) ∧ HasN w' w.heap.size u (bthL n l n2 l2) ∧ Below w.heap.size w w')
    (hiP : ∀ (n : Int) (v : Value) (l : List Int) (key : ByteArray) (w : World), Sls intE w v l → key.size ≤ 1048576 → Calls Try.prog 22 #[skV n v, .string key] w fun e w' => e = .returned (.bool (prhB n l key)) ∧ Below w.heap.size w w')
    (hiK : ∀ (n : Int) (key : ByteArray) (w : World), key.size ≤ 1048576 → Calls Try.prog 25 #[.int .i64 n, .string key] w fun e w' => ∃ g c, e = .returned (.slice (some ⟨g, 0, none⟩) (mksV n key).length c) ∧ HasN w' w.heap.size (.slice (some ⟨g, 0, none⟩) (mksV n key).length c) (mksV n key) ∧ Below w.heap.size w w')
    (hiO : ∀ (n : Int) (v : Value) (l : List Int) (w : World), Sls intE w v l → Calls Try.prog 27 #[skV n v] w fun e w' => e = .returned (.bool (skOk n l)) ∧ Below w.heap.size w w')
    (hiN : ∀ (n : Int) (w : World), Calls Try.prog 18 #[.int .i64 n] w fun e w' => ∃ u, e = .returned (.tuple #[skV (if szOk n = true then n else 0) u, .bool (szOk n)]) ∧ HasN w' w.heap.size u [] ∧ Below w.heap.size w w')
    (sa : Option Addr) (sl sc : Nat) (zs : List Int) (w : World) (hw : IsRow w sa sl sc zs) :
    Calls Try.prog 3 #[.slice sa sl sc] w fun e w' => e = .returned (.bool true) ∧ Below w.heap.size w w' := by
  by_cases hbig : 4096 < sl
  · have hlen := hw.len
    clear hw
    go_enter Try.func3, Try.ntmps3
    go_wp2_with (go_at_call 10; refine (isBig sa sl sc _ hbig hlen).mono ?_; rintro e w1 ⟨rfl, rfl⟩)
    go_ret
    exact ⟨rfl, Below.refl _ _⟩
  · have hl : sl ≤ 4096 := by omega
    have h8 : Hid (Code8 w w.heap.size sa sl) := hw.code.code
    have dM := fun W h => drawMrk sa sl sc W h hl
    have dB := fun W h => drawBth sa sl sc W h hl
    have dP := fun W h => drawPrh sa sl sc W h hl
    have dK := fun W h => drawMks sa sl sc W h hl
    have dN := fun W h => drawNw sa sl sc W h hl
    have spM := fun n v l key W h hk => specMrk n v l key W h hk
    have spB := fun n v l n2 v2 l2 W h h2 => specBth n v l n2 v2 l2 W h h2
    have spP := fun n v l key W h hk => specPrh n v l key W h hk
    have spK := fun n key W hk => specMks n key W hk
    have spO := fun n v l W h => specSko n v l W h
    have spN := fun n W => specNew n W
    have hLk := fun q va vb l W ha hb hl => likeSk q va vb l W ha hb hl
    have hLn := fun va vb l W ha hb hl => likeNum va vb l W ha hb hl
    unfold skV at *
    clear hw hbig
    have H0 : Hid (Hold w w []) := (show Hid _ from ⟨Below.refl _ _, fun b hb => by cases hb⟩)
    go_enter Try.func3, Try.ntmps3
    go_wp2_with fail
    refine (notBig sa sl sc _ hl).mono ?_
    rintro e w0 ⟨rfl, rfl⟩
    go_wp2_with fail
    refine (dM _ h8.out).mono ?_
    rintro e w1 ⟨⟨q3, u3, l3, k, rfl, ho, hf3, hk⟩, hb⟩
    obtain ⟨a3, c3, hv, _⟩ := ho.form
    subst hv
    have H1 : Hid (Hold w (w1.alloc (.cells #[.int .i64 q3, .slice a3 l3.length c3] 26)) [⟨w1.heap.size, q3, .slice a3 l3.length c3, l3⟩]) := (show Hid _ from (H0.out.kept hb).box _ _ _ ho.sls)
    clear ho hb H0
    go_wp2_with fail
    generalize w1.heap.size = m3 at *
    generalize w1.alloc (.cells #[.int .i64 q3, .slice a3 l3.length c3] 26) = w2 at H1 ⊢
    have iM := fun W h => hiM q3 (.slice a3 l3.length c3) l3 k W h (by omega)
    have sM := fun v W h => spM q3 v l3 k W h (by omega)
    have hst := fun s => mrk_stays (q := q3) (l := l3) (key := k) (s := s)
    have hth := mrk_there (q := q3) (l := l3) k
    have hnt : skOk q3 l3 = false → (mrkL q3 l3 k).length = 0 := fun h => by unfold mrkL; rw [h]; rfl
    have hf5 := mrkL_few q3 l3 k
    have HST : Hid (∀ s, prhB q3 l3 s = true → prhB (mrkQ q3 l3) (mrkL q3 l3 k) s = true) := hst
    have HTH : Hid (skOk q3 l3 = true → skOk (mrkQ q3 l3) (mrkL q3 l3 k) = true ∧ prhB (mrkQ q3 l3) (mrkL q3 l3 k) k = true ∧ l3.length ≤ (mrkL q3 l3 k).length) := hth
    have HNT : Hid (skOk q3 l3 = false → (mrkL q3 l3 k).length = 0) := hnt
    clear hst hth hnt hiM spM dM
    generalize mrkQ q3 l3 = q5 at iM sM HST HTH
    generalize mrkL q3 l3 k = l5 at iM sM HST HTH HNT hf5
    refine (iM _ (H1.out.at (b := ⟨m3, q3, .slice a3 l3.length c3, l3⟩) (by repeat (first | exact List.mem_cons_self | apply List.mem_cons_of_mem))).sls).mono ?_
    rintro e w3 ⟨u5, rfl, ho, hb⟩
    obtain ⟨a5, c5, hv, _⟩ := ho.form
    subst hv
    have H3 : Hid (Hold w (w3.alloc (.cells #[.int .i64 q5, .slice a5 l5.length c5] 26)) [⟨w3.heap.size, q5, .slice a5 l5.length c5, l5⟩, ⟨m3, q3, .slice a3 l3.length c3, l3⟩]) := (show Hid _ from (H1.out.kept hb).box _ _ _ ho.sls)
    clear ho hb H1
    go_wp2_with fail
    generalize w3.heap.size = m5 at *
    generalize w3.alloc (.cells #[.int .i64 q5, .slice a5 l5.length c5] 26) = w23 at H3 ⊢
    refine (dB _ (code_past h8.out H3.out.1)).mono ?_
    rintro e w4 ⟨⟨q6, u6, l6, q7, u7, l7, rfl, ho6, hf6, ho7, hf7⟩, hb⟩
    obtain ⟨a6, c6, hv, _⟩ := ho6.form
    subst hv
    obtain ⟨a7, c7, hv, _⟩ := ho7.form
    subst hv
    have hsz : (w4.alloc (.cells #[.int .i64 q6, .slice a6 l6.length c6] 26)).heap.size = w4.heap.size + 1 := by simp
    have HA : Hid (Hold w ((w4.alloc (.cells #[.int .i64 q6, .slice a6 l6.length c6] 26)).alloc (.cells #[.int .i64 q7, .slice a7 l7.length c7] 26)) [⟨w4.heap.size + 1, q7, .slice a7 l7.length c7, l7⟩, ⟨w4.heap.size, q6, .slice a6 l6.length c6, l6⟩, ⟨m5, q5, .slice a5 l5.length c5, l5⟩, ⟨m3, q3, .slice a3 l3.length c3, l3⟩]) := (show Hid _ from by have := ((H3.out.kept hb).box q6 (.slice a6 l6.length c6) l6 ho6.sls).box q7 (.slice a7 l7.length c7) l7 (ho7.sls.kept ((Below.refl _ w4).alloc (Nat.le_refl _) _)); rw [hsz] at this; exact this)
    clear ho6 ho7 hb hsz H3
    go_wp2_with fail
    generalize w4.heap.size + 1 = m7 at *
    generalize w4.heap.size = m6 at *
    generalize (w4.alloc (.cells #[.int .i64 q6, .slice a6 l6.length c6] 26)).alloc (.cells #[.int .i64 q7, .slice a7 l7.length c7] 26) = w24 at HA ⊢
    have iB := fun W h h2 => hiB q6 (.slice a6 l6.length c6) l6 q7 (.slice a7 l7.length c7) l7 W h h2
    have sB := fun W h h2 => spB q6 (.slice a6 l6.length c6) l6 q7 (.slice a7 l7.length c7) l7 W h h2
    have HBS : Hid (∀ s, bthB q6 l6 q7 l7 = true → prhB q6 l6 s = true ∨ prhB q7 l7 s = true → prhB (bthQ q6 l6 q7 l7) (bthL q6 l6 q7 l7) s = true) := (show ∀ _, _ from fun s h1 h2 => bth_stays h1 h2)
    have hf8 := bthL_few q6 l6 q7 l7
    clear hiB spB dB
    generalize bthQ q6 l6 q7 l7 = q8 at iB sB HBS
    generalize bthL q6 l6 q7 l7 = l8 at iB sB HBS hf8
    generalize bthB q6 l6 q7 l7 = bb at iB sB HBS
    refine (iB _ (HA.out.at (b := ⟨m6, q6, .slice a6 l6.length c6, l6⟩) (by repeat (first | exact List.mem_cons_self | apply List.mem_cons_of_mem))).sls (HA.out.at (b := ⟨m7, q7, .slice a7 l7.length c7, l7⟩) (by repeat (first | exact List.mem_cons_self | apply List.mem_cons_of_mem))).sls).mono ?_
    rintro e w5 ⟨u8, rfl, ho, hb⟩
    obtain ⟨a8, c8, hv, _⟩ := ho.form
    subst hv
    have H11 : Hid (Hold w (w5.alloc (.cells #[.int .i64 q8, .slice a8 l8.length c8] 26)) [⟨w5.heap.size, q8, .slice a8 l8.length c8, l8⟩, ⟨m7, q7, .slice a7 l7.length c7, l7⟩, ⟨m6, q6, .slice a6 l6.length c6, l6⟩, ⟨m5, q5, .slice a5 l5.length c5, l5⟩, ⟨m3, q3, .slice a3 l3.length c3, l3⟩]) := (show Hid _ from (HA.out.kept hb).box _ _ _ ho.sls)
    clear ho hb HA
    go_wp2_with fail
    generalize w5.heap.size = m8 at *
    generalize w5.alloc (.cells #[.int .i64 q8, .slice a8 l8.length c8] 26) = w31 at H11 ⊢
    refine (dP _ (code_past h8.out H11.out.1)).mono ?_
    rintro e w6 ⟨⟨q10, u10, l10, t11, rfl, ho, hf10, ht11⟩, hb⟩
    obtain ⟨a10, c10, hv, _⟩ := ho.form
    subst hv
    have H12 : Hid (Hold w (w6.alloc (.cells #[.int .i64 q10, .slice a10 l10.length c10] 26)) [⟨w6.heap.size, q10, .slice a10 l10.length c10, l10⟩, ⟨m8, q8, .slice a8 l8.length c8, l8⟩, ⟨m7, q7, .slice a7 l7.length c7, l7⟩, ⟨m6, q6, .slice a6 l6.length c6, l6⟩, ⟨m5, q5, .slice a5 l5.length c5, l5⟩, ⟨m3, q3, .slice a3 l3.length c3, l3⟩]) := (show Hid _ from (H11.out.kept hb).box _ _ _ ho.sls)
    clear ho hb H11
    go_wp2_with fail
    generalize w6.heap.size = m10 at *
    generalize w6.alloc (.cells #[.int .i64 q10, .slice a10 l10.length c10] 26) = w32 at H12 ⊢
    refine (dK _ (code_past h8.out H12.out.1)).mono ?_
    rintro e w7 ⟨⟨n12, t13, rfl, ht13⟩, hb⟩
    have HC : Hid (Hold w w7 [⟨m10, q10, .slice a10 l10.length c10, l10⟩, ⟨m8, q8, .slice a8 l8.length c8, l8⟩, ⟨m7, q7, .slice a7 l7.length c7, l7⟩, ⟨m6, q6, .slice a6 l6.length c6, l6⟩, ⟨m5, q5, .slice a5 l5.length c5, l5⟩, ⟨m3, q3, .slice a3 l3.length c3, l3⟩]) := (show Hid _ from H12.out.kept hb)
    clear hb H12
    go_wp2_with fail
    refine (dN _ (code_past h8.out HC.out.1)).mono ?_
    rintro e w8 ⟨⟨n14, rfl⟩, hb⟩
    have HD : Hid (Hold w w8 [⟨m10, q10, .slice a10 l10.length c10, l10⟩, ⟨m8, q8, .slice a8 l8.length c8, l8⟩, ⟨m7, q7, .slice a7 l7.length c7, l7⟩, ⟨m6, q6, .slice a6 l6.length c6, l6⟩, ⟨m5, q5, .slice a5 l5.length c5, l5⟩, ⟨m3, q3, .slice a3 l3.length c3, l3⟩]) := (show Hid _ from HC.out.kept hb)
    clear hb HC
    go_wp2_with fail
    have iN := fun W => hiN n14 W
    have sN := fun W => spN n14 W
    have HSN : Hid (szOk n14 = true → skOk (if szOk n14 = true then n14 else 0) [] = true) := (show _ → _ from sk_new)
    clear hiN spN dP dK dN
    generalize (if szOk n14 = true then n14 else 0) = q15 at iN sN HSN
    generalize szOk n14 = fine at iN sN HSN
    obtain ⟨l15, hl15⟩ : ∃ l15 : List Int, l15 = [] := ⟨_, rfl⟩
    have HL15 : Hid (l15 = []) := hl15
    rw [← hl15] at iN HSN
    have hf15 : l15.length ≤ 5 := by rw [hl15]; simp
    clear hl15
    refine (iN _).mono ?_
    rintro e w9 ⟨u15, rfl, ho, hb⟩
    obtain ⟨a15, c15, hv, _⟩ := ho.form
    subst hv
    have H13 : Hid (Hold w (w9.alloc (.cells #[.int .i64 q15, .slice a15 l15.length c15] 26)) [⟨w9.heap.size, q15, .slice a15 l15.length c15, l15⟩, ⟨m10, q10, .slice a10 l10.length c10, l10⟩, ⟨m8, q8, .slice a8 l8.length c8, l8⟩, ⟨m7, q7, .slice a7 l7.length c7, l7⟩, ⟨m6, q6, .slice a6 l6.length c6, l6⟩, ⟨m5, q5, .slice a5 l5.length c5, l5⟩, ⟨m3, q3, .slice a3 l3.length c3, l3⟩]) := (show Hid _ from (HD.out.kept hb).box _ _ _ ho.sls)
    clear ho hb HD
    have y0 := (H13.out.at (b := ⟨m6, q6, .slice a6 l6.length c6, l6⟩) (by repeat (first | exact List.mem_cons_self | apply List.mem_cons_of_mem))).c0
    have z0 := (H13.out.at (b := ⟨m6, q6, .slice a6 l6.length c6, l6⟩) (by repeat (first | exact List.mem_cons_self | apply List.mem_cons_of_mem))).c1
    have x0 := (H13.out.at (b := ⟨m6, q6, .slice a6 l6.length c6, l6⟩) (by repeat (first | exact List.mem_cons_self | apply List.mem_cons_of_mem))).lt
    have y1 := (H13.out.at (b := ⟨m7, q7, .slice a7 l7.length c7, l7⟩) (by repeat (first | exact List.mem_cons_self | apply List.mem_cons_of_mem))).c0
    have z1 := (H13.out.at (b := ⟨m7, q7, .slice a7 l7.length c7, l7⟩) (by repeat (first | exact List.mem_cons_self | apply List.mem_cons_of_mem))).c1
    have x1 := (H13.out.at (b := ⟨m7, q7, .slice a7 l7.length c7, l7⟩) (by repeat (first | exact List.mem_cons_self | apply List.mem_cons_of_mem))).lt
    go_wp2_with fail
    clear y0 z0 x0 y1 z1 x1
    generalize w9.heap.size = m15 at *
    generalize w9.alloc (.cells #[.int .i64 q15, .slice a15 l15.length c15] 26) = w33 at H13 ⊢
    refine (sB _ (H13.out.at (b := ⟨m6, q6, .slice a6 l6.length c6, l6⟩) (by repeat (first | exact List.mem_cons_self | apply List.mem_cons_of_mem))).sls (H13.out.at (b := ⟨m7, q7, .slice a7 l7.length c7, l7⟩) (by repeat (first | exact List.mem_cons_self | apply List.mem_cons_of_mem))).sls).mono ?_
    rintro e w10 ⟨u17, rfl, ho, hb⟩
    obtain ⟨a17, c17, hv, _⟩ := ho.form
    subst hv
    have H14 : Hid (Hold w (w10.alloc (.cells #[.int .i64 q8, .slice a17 l8.length c17] 26)) [⟨w10.heap.size, q8, .slice a17 l8.length c17, l8⟩, ⟨m15, q15, .slice a15 l15.length c15, l15⟩, ⟨m10, q10, .slice a10 l10.length c10, l10⟩, ⟨m8, q8, .slice a8 l8.length c8, l8⟩, ⟨m7, q7, .slice a7 l7.length c7, l7⟩, ⟨m6, q6, .slice a6 l6.length c6, l6⟩, ⟨m5, q5, .slice a5 l5.length c5, l5⟩, ⟨m3, q3, .slice a3 l3.length c3, l3⟩]) := (show Hid _ from (H13.out.kept hb).box _ _ _ ho.sls)
    clear ho hb H13
    go_wp2_with fail
    generalize w10.heap.size = m17 at *
    generalize w10.alloc (.cells #[.int .i64 q8, .slice a17 l8.length c17] 26) = w34 at H14 ⊢
    obtain ⟨L, hL⟩ : ∃ L : List KB, L = [⟨m17, q8, .slice a17 l8.length c17, l8⟩, ⟨m15, q15, .slice a15 l15.length c15, l15⟩, ⟨m10, q10, .slice a10 l10.length c10, l10⟩, ⟨m8, q8, .slice a8 l8.length c8, l8⟩, ⟨m7, q7, .slice a7 l7.length c7, l7⟩, ⟨m6, q6, .slice a6 l6.length c6, l6⟩, ⟨m5, q5, .slice a5 l5.length c5, l5⟩, ⟨m3, q3, .slice a3 l3.length c3, l3⟩] := ⟨_, rfl⟩
    have n3 : KB.mk m3 q3 (.slice a3 l3.length c3) l3 ∈ L := by rw [hL]; repeat (first | exact List.mem_cons_self | apply List.mem_cons_of_mem)
    have n5 : KB.mk m5 q5 (.slice a5 l5.length c5) l5 ∈ L := by rw [hL]; repeat (first | exact List.mem_cons_self | apply List.mem_cons_of_mem)
    have n6 : KB.mk m6 q6 (.slice a6 l6.length c6) l6 ∈ L := by rw [hL]; repeat (first | exact List.mem_cons_self | apply List.mem_cons_of_mem)
    have n7 : KB.mk m7 q7 (.slice a7 l7.length c7) l7 ∈ L := by rw [hL]; repeat (first | exact List.mem_cons_self | apply List.mem_cons_of_mem)
    have n8 : KB.mk m8 q8 (.slice a8 l8.length c8) l8 ∈ L := by rw [hL]; repeat (first | exact List.mem_cons_self | apply List.mem_cons_of_mem)
    have n10 : KB.mk m10 q10 (.slice a10 l10.length c10) l10 ∈ L := by rw [hL]; repeat (first | exact List.mem_cons_self | apply List.mem_cons_of_mem)
    have n15 : KB.mk m15 q15 (.slice a15 l15.length c15) l15 ∈ L := by rw [hL]; repeat (first | exact List.mem_cons_self | apply List.mem_cons_of_mem)
    have n17 : KB.mk m17 q8 (.slice a17 l8.length c17) l8 ∈ L := by rw [hL]; repeat (first | exact List.mem_cons_self | apply List.mem_cons_of_mem)
    rw [← hL] at H14
    clear hL
    have S0 : Hold w w34.drew L := H14.out.drew
    have hL8 := fun W h1 h2 => hLk q8 (.slice a8 l8.length c8) (.slice a17 l8.length c17) l8 W h1 h2 (by omega)
    have hL5 := fun u W h1 h2 => hLk q5 (.slice a5 l5.length c5) u l5 W h1 h2 (by omega)
    have iP := fun W h => hiP q10 (.slice a10 l10.length c10) l10 t11 W h (by omega)
    have sP := fun W h => spP q10 (.slice a10 l10.length c10) l10 t11 W h (by omega)
    generalize prhB q10 l10 t11 = PB at iP sP
    have iK := fun W => hiK n12 t13 W (by omega)
    have sK := fun W => spK n12 t13 W (by omega)
    have hf12 := mksV_length n12 t13
    generalize mksV n12 t13 = MM at iK sK hf12
    have hLM := fun u v W h1 h2 => hLn u v MM W h1 h2 (by omega)
    have iO := fun W h => hiO q3 (.slice a3 l3.length c3) l3 W h
    have sO := fun W h => spO q3 (.slice a3 l3.length c3) l3 W h
    obtain ⟨OO, hOO⟩ : ∃ OO, OO = skOk q3 l3 := ⟨_, rfl⟩
    rw [← hOO] at iO sO
    have HOO : Hid (OO = skOk q3 l3) := hOO
    clear hOO
    generalize hA : Act.mk _ _ = A
    obtain ⟨s, hs, s3_, s4_, s5_, s6_, s7_, s8_, s9_, s10_, s11_, s12_, s13_, s14_, s15_, s16_, s17_, s18_⟩ : ∃ s : Nat → Value, A = frSk s (fun _ => undef) ∧ s 3 = .pointer (some ⟨m3, 0, none⟩) ∧ s 4 = .string k ∧ s 5 = .pointer (some ⟨m5, 0, none⟩) ∧ s 6 = .pointer (some ⟨m6, 0, none⟩) ∧ s 7 = .pointer (some ⟨m7, 0, none⟩) ∧ s 8 = .pointer (some ⟨m8, 0, none⟩) ∧ s 9 = .bool bb ∧ s 10 = .pointer (some ⟨m10, 0, none⟩) ∧ s 11 = .string t11 ∧ s 12 = .int .i64 n12 ∧ s 13 = .string t13 ∧ s 14 = .int .i64 n14 ∧ s 15 = .pointer (some ⟨m15, 0, none⟩) ∧ s 16 = .bool fine ∧ s 17 = .pointer (some ⟨m17, 0, none⟩) ∧ s 18 = .bool bb := by
      refine ⟨fun i => A.tmps.getD i undef, ?_, ?_, ?_, ?_, ?_, ?_, ?_, ?_, ?_, ?_, ?_, ?_, ?_, ?_, ?_, ?_, ?_⟩ <;> rw [← hA] <;> rfl
    rw [hs]
    clear hs hA
    refine region_heads 42 mixed (by decide) (by kernel_rfl) (by kernel_rfl) (by kernel_rfl) (by kernel_rfl) (frSk s) dSk (fun x => Hold w x L) (GSk bb PB OO k t11 t13 n12 MM q3 q5 q8 q10 l3 l5 l8 l10 a3 a5 a8 a10 a17 c3 c5 c8 c10 c17) (fun i j hi hj h => by unfold dSk; omega) ?put (fun _ => undef) rfl S0 ?step ?done
    case put =>
      intro i o hi ho t v
      rcases (show i = 0 ∨ i = 1 ∨ i = 2 ∨ i = 3 ∨ i = 4 ∨ i = 5 ∨ i = 6 ∨ i = 7 ∨ i = 8 ∨ i = 9 ∨ i = 10 ∨ i = 11 ∨ i = 12 ∨ i = 13 ∨ i = 14 ∨ i = 15 ∨ i = 16 ∨ i = 17 ∨ i = 18 ∨ i = 19 ∨ i = 20 ∨ i = 21 ∨ i = 22 ∨ i = 23 ∨ i = 24 ∨ i = 25 ∨ i = 26 ∨ i = 27 ∨ i = 28 ∨ i = 29 ∨ i = 30 ∨ i = 31 ∨ i = 32 ∨ i = 33 ∨ i = 34 ∨ i = 35 ∨ i = 36 ∨ i = 37 ∨ i = 38 ∨ i = 39 ∨ i = 40 ∨ i = 41 by omega) with rfl | rfl | rfl | rfl | rfl | rfl | rfl | rfl | rfl | rfl | rfl | rfl | rfl | rfl | rfl | rfl | rfl | rfl | rfl | rfl | rfl | rfl | rfl | rfl | rfl | rfl | rfl | rfl | rfl | rfl | rfl | rfl | rfl | rfl | rfl | rfl | rfl | rfl | rfl | rfl | rfl | rfl
      all_goals
        obtain rfl := Option.some.inj ho
        rfl
    case step =>
      intro i o hi ho t x hS hdep K hK
      rcases (show i = 0 ∨ i = 1 ∨ i = 2 ∨ i = 3 ∨ i = 4 ∨ i = 5 ∨ i = 6 ∨ i = 7 ∨ i = 8 ∨ i = 9 ∨ i = 10 ∨ i = 11 ∨ i = 12 ∨ i = 13 ∨ i = 14 ∨ i = 15 ∨ i = 16 ∨ i = 17 ∨ i = 18 ∨ i = 19 ∨ i = 20 ∨ i = 21 ∨ i = 22 ∨ i = 23 ∨ i = 24 ∨ i = 25 ∨ i = 26 ∨ i = 27 ∨ i = 28 ∨ i = 29 ∨ i = 30 ∨ i = 31 ∨ i = 32 ∨ i = 33 ∨ i = 34 ∨ i = 35 ∨ i = 36 ∨ i = 37 ∨ i = 38 ∨ i = 39 ∨ i = 40 ∨ i = 41 by omega) with rfl | rfl | rfl | rfl | rfl | rfl | rfl | rfl | rfl | rfl | rfl | rfl | rfl | rfl | rfl | rfl | rfl | rfl | rfl | rfl | rfl | rfl | rfl | rfl | rfl | rfl | rfl | rfl | rfl | rfl | rfl | rfl | rfl | rfl | rfl | rfl | rfl | rfl | rfl | rfl | rfl | rfl
      all_goals obtain rfl := Option.some.inj ho
      · have h2 := hK (.bool bb) x hS (fun j u hj hne h => h) rfl
        unfold frSk at h2 ⊢
        clear hK
        go_simp
        simpa [Act.put, s3_, s4_, s5_, s6_, s7_, s8_, s9_, s10_, s11_, s12_, s13_, s14_, s15_, s16_, s17_, s18_] using h2
      · have h2 := hK (.bool bb) x hS (fun j u hj hne h => h) rfl
        unfold frSk at h2 ⊢
        clear hK
        go_simp
        simpa [Act.put, s3_, s4_, s5_, s6_, s7_, s8_, s9_, s10_, s11_, s12_, s13_, s14_, s15_, s16_, s17_, s18_] using h2
      · have e0 : t 67 = .bool bb := hdep { on := 0, ground := Ground.data } (by simp) rfl
        have e1 : t 68 = .bool bb := hdep { on := 1, ground := Ground.data } (by simp) rfl
        have h2 := hK (.bool false) x hS (fun j u hj hne h => h) rfl
        unfold frSk at h2 ⊢
        clear hK
        go_simp
        simpa [Act.put, e0, e1, s3_, s4_, s5_, s6_, s7_, s8_, s9_, s10_, s11_, s12_, s13_, s14_, s15_, s16_, s17_, s18_] using h2
      · have e2 : t 69 = .bool false := hdep { on := 2, ground := Ground.data } (by simp) rfl
        have h2 := hK (.bool false) x hS (fun j u hj hne h => h) rfl
        unfold frSk at h2 ⊢
        clear hK
        go_simp
        simpa [Act.put, e2, s3_, s4_, s5_, s6_, s7_, s8_, s9_, s10_, s11_, s12_, s13_, s14_, s15_, s16_, s17_, s18_] using h2
      · have e3 : t 70 = .bool false := hdep { on := 3, ground := Ground.guard } (by simp) rfl
        have y0 := (hS.at n8).c0
        have y1 := (hS.at n8).c1
        have h2 := hK (.agg #[.int .i64 q8, .slice a8 l8.length c8]) x hS (fun j u hj hne h => h) rfl
        unfold frSk at h2 ⊢
        clear hK
        go_simp
        simpa [Act.put, e3, y0, y1, s3_, s4_, s5_, s6_, s7_, s8_, s9_, s10_, s11_, s12_, s13_, s14_, s15_, s16_, s17_, s18_] using h2
      · have e3 : t 70 = .bool false := hdep { on := 3, ground := Ground.guard } (by simp) rfl
        have y0 := (hS.at n17).c0
        have y1 := (hS.at n17).c1
        have h2 := hK (.agg #[.int .i64 q8, .slice a17 l8.length c17]) x hS (fun j u hj hne h => h) rfl
        unfold frSk at h2 ⊢
        clear hK
        go_simp
        simpa [Act.put, e3, y0, y1, s3_, s4_, s5_, s6_, s7_, s8_, s9_, s10_, s11_, s12_, s13_, s14_, s15_, s16_, s17_, s18_] using h2
      · have e4 : t 71 = .agg #[.int .i64 q8, .slice a8 l8.length c8] := hdep { on := 4, ground := Ground.data } (by simp) rfl
        have e5 : t 72 = .agg #[.int .i64 q8, .slice a17 l8.length c17] := hdep { on := 5, ground := Ground.data } (by simp) rfl
        have e3 : t 70 = .bool false := hdep { on := 3, ground := Ground.guard } (by simp) rfl
        refine callG2 (wantG 3 false rfl _ rfl 70 rfl (congrArg some e3)) 20 (.tmp 71) (.tmp 72) _ rfl (.agg #[.int .i64 q8, .slice a8 l8.length c8]) (.agg #[.int .i64 q8, .slice a17 l8.length c17]) e4 e5 (Go.Proofs.enters_of Try.func20 (by kernel_rfl) rfl _) (fun v y => (v = .bool true) ∧ Below x.heap.size x y) ((hL8 x (hS.at n8).sls (hS.at n17).sls).mono ?_) ?_
        · rintro e y ⟨h0, h1⟩
          exact ⟨_, h0, rfl, h1.low⟩
        · rintro v y ⟨h0, hb2⟩
          exact hK v y (hS.kept hb2) (fun j u hj hne h => GSk.keep hb2 j u hj h) h0
      · have e6 : t 73 = .bool true := hdep { on := 6, ground := Ground.data } (by simp) rfl
        have e3 : t 70 = .bool false := hdep { on := 3, ground := Ground.guard } (by simp) rfl
        have h2 := hK (.bool false) x hS (fun j u hj hne h => h) rfl
        unfold frSk at h2 ⊢
        clear hK
        go_simp
        simpa [Act.put, e6, e3, s3_, s4_, s5_, s6_, s7_, s8_, s9_, s10_, s11_, s12_, s13_, s14_, s15_, s16_, s17_, s18_] using h2
      · have e3 : t 70 = .bool false := hdep { on := 3, ground := Ground.data } (by simp) rfl
        have e7 : t 74 = .bool false := hdep { on := 7, ground := Ground.data } (by simp) rfl
        have h2 := hK (.bool false) x hS (fun j u hj hne h => h) rfl
        unfold frSk at h2 ⊢
        clear hK
        go_simp
        simpa [Act.put, e3, e7, s3_, s4_, s5_, s6_, s7_, s8_, s9_, s10_, s11_, s12_, s13_, s14_, s15_, s16_, s17_, s18_] using h2
      · have e8 : t 75 = .bool false := hdep { on := 8, ground := Ground.data } (by simp) rfl
        have h2 := hK (.bool false) x hS (fun j u hj hne h => h) rfl
        unfold frSk at h2 ⊢
        clear hK
        go_simp
        simpa [Act.put, e8, s3_, s4_, s5_, s6_, s7_, s8_, s9_, s10_, s11_, s12_, s13_, s14_, s15_, s16_, s17_, s18_] using h2
      · have e9 : t 76 = .bool false := hdep { on := 9, ground := Ground.guard } (by simp) rfl
        have y0 := (hS.at n5).c0
        have y1 := (hS.at n5).c1
        have h2 := hK (.agg #[.int .i64 q5, .slice a5 l5.length c5]) x hS (fun j u hj hne h => h) rfl
        unfold frSk at h2 ⊢
        clear hK
        go_simp
        simpa [Act.put, e9, y0, y1, s3_, s4_, s5_, s6_, s7_, s8_, s9_, s10_, s11_, s12_, s13_, s14_, s15_, s16_, s17_, s18_] using h2
      · have e9 : t 76 = .bool false := hdep { on := 9, ground := Ground.guard } (by simp) rfl
        have y0 := (hS.at n3).c0
        have y1 := (hS.at n3).c1
        have h2 := hK (.agg #[.int .i64 q3, .slice a3 l3.length c3]) x hS (fun j u hj hne h => h) rfl
        unfold frSk at h2 ⊢
        clear hK
        go_simp
        simpa [Act.put, e9, y0, y1, s3_, s4_, s5_, s6_, s7_, s8_, s9_, s10_, s11_, s12_, s13_, s14_, s15_, s16_, s17_, s18_] using h2
      · have e9 : t 76 = .bool false := hdep { on := 9, ground := Ground.guard } (by simp) rfl
        have h2 := hK (.string k) x hS (fun j u hj hne h => h) rfl
        unfold frSk at h2 ⊢
        clear hK
        go_simp
        simpa [Act.put, e9, s3_, s4_, s5_, s6_, s7_, s8_, s9_, s10_, s11_, s12_, s13_, s14_, s15_, s16_, s17_, s18_] using h2
      · have e11 : t 78 = .agg #[.int .i64 q3, .slice a3 l3.length c3] := hdep { on := 11, ground := Ground.data } (by simp) rfl
        have e12 : t 79 = .string k := hdep { on := 12, ground := Ground.data } (by simp) rfl
        have e9 : t 76 = .bool false := hdep { on := 9, ground := Ground.guard } (by simp) rfl
        refine callG2 (wantG 9 false rfl _ rfl 76 rfl (congrArg some e9)) 21 (.tmp 78) (.tmp 79) _ rfl (.agg #[.int .i64 q3, .slice a3 l3.length c3]) (.string k) e11 e12 (Go.Proofs.enters_of Try.func21 (by kernel_rfl) rfl _) (fun v y => (∃ (p1 : Option Addr) (d1 : Nat), v = .agg #[.int .i64 q5, .slice p1 l5.length d1] ∧ Sls intE y (.slice p1 l5.length d1) l5) ∧ Below x.heap.size x y) ((sM _ x (hS.at n3).sls).mono ?_) ?_
        · rintro e y ⟨u, h0, h1, h2⟩
          have h3 := h1.sls
          obtain ⟨p1, d1, rfl, _⟩ := h1.form
          exact ⟨_, h0, ⟨p1, d1, rfl, h3⟩, h2⟩
        · rintro v y ⟨h0, hb2⟩
          exact hK v y (hS.kept hb2) (fun j u hj hne h => GSk.keep hb2 j u hj h) h0
      · have e10 : t 77 = .agg #[.int .i64 q5, .slice a5 l5.length c5] := hdep { on := 10, ground := Ground.data } (by simp) rfl
        obtain ⟨p13, d13, e13, k13⟩ : ∃ (p1 : Option Addr) (d1 : Nat), t 80 = .agg #[.int .i64 q5, .slice p1 l5.length d1] ∧ Sls intE x (.slice p1 l5.length d1) l5 := hdep { on := 13, ground := Ground.data } (by simp) rfl
        have e9 : t 76 = .bool false := hdep { on := 9, ground := Ground.guard } (by simp) rfl
        refine callG2 (wantG 9 false rfl _ rfl 76 rfl (congrArg some e9)) 20 (.tmp 77) (.tmp 80) _ rfl (.agg #[.int .i64 q5, .slice a5 l5.length c5]) (.agg #[.int .i64 q5, .slice p13 l5.length d13]) e10 e13 (Go.Proofs.enters_of Try.func20 (by kernel_rfl) rfl _) (fun v y => (v = .bool true) ∧ Below x.heap.size x y) ((hL5 _ x (hS.at n5).sls k13).mono ?_) ?_
        · rintro e y ⟨h0, h1⟩
          exact ⟨_, h0, rfl, h1.low⟩
        · rintro v y ⟨h0, hb2⟩
          exact hK v y (hS.kept hb2) (fun j u hj hne h => GSk.keep hb2 j u hj h) h0
      · have e14 : t 81 = .bool true := hdep { on := 14, ground := Ground.data } (by simp) rfl
        have e9 : t 76 = .bool false := hdep { on := 9, ground := Ground.guard } (by simp) rfl
        have h2 := hK (.bool false) x hS (fun j u hj hne h => h) rfl
        unfold frSk at h2 ⊢
        clear hK
        go_simp
        simpa [Act.put, e14, e9, s3_, s4_, s5_, s6_, s7_, s8_, s9_, s10_, s11_, s12_, s13_, s14_, s15_, s16_, s17_, s18_] using h2
      · have e9 : t 76 = .bool false := hdep { on := 9, ground := Ground.data } (by simp) rfl
        have e15 : t 82 = .bool false := hdep { on := 15, ground := Ground.data } (by simp) rfl
        have h2 := hK (.bool false) x hS (fun j u hj hne h => h) rfl
        unfold frSk at h2 ⊢
        clear hK
        go_simp
        simpa [Act.put, e9, e15, s3_, s4_, s5_, s6_, s7_, s8_, s9_, s10_, s11_, s12_, s13_, s14_, s15_, s16_, s17_, s18_] using h2
      · have e16 : t 83 = .bool false := hdep { on := 16, ground := Ground.data } (by simp) rfl
        have h2 := hK (.bool false) x hS (fun j u hj hne h => h) rfl
        unfold frSk at h2 ⊢
        clear hK
        go_simp
        simpa [Act.put, e16, s3_, s4_, s5_, s6_, s7_, s8_, s9_, s10_, s11_, s12_, s13_, s14_, s15_, s16_, s17_, s18_] using h2
      · have e17 : t 84 = .bool false := hdep { on := 17, ground := Ground.guard } (by simp) rfl
        have y0 := (hS.at n10).c0
        have y1 := (hS.at n10).c1
        have h2 := hK (.agg #[.int .i64 q10, .slice a10 l10.length c10]) x hS (fun j u hj hne h => h) rfl
        unfold frSk at h2 ⊢
        clear hK
        go_simp
        simpa [Act.put, e17, y0, y1, s3_, s4_, s5_, s6_, s7_, s8_, s9_, s10_, s11_, s12_, s13_, s14_, s15_, s16_, s17_, s18_] using h2
      · have e17 : t 84 = .bool false := hdep { on := 17, ground := Ground.guard } (by simp) rfl
        have h2 := hK (.string t11) x hS (fun j u hj hne h => h) rfl
        unfold frSk at h2 ⊢
        clear hK
        go_simp
        simpa [Act.put, e17, s3_, s4_, s5_, s6_, s7_, s8_, s9_, s10_, s11_, s12_, s13_, s14_, s15_, s16_, s17_, s18_] using h2
      · have e18 : t 85 = .agg #[.int .i64 q10, .slice a10 l10.length c10] := hdep { on := 18, ground := Ground.data } (by simp) rfl
        have e19 : t 86 = .string t11 := hdep { on := 19, ground := Ground.data } (by simp) rfl
        have e17 : t 84 = .bool false := hdep { on := 17, ground := Ground.guard } (by simp) rfl
        refine callG2 (wantG 17 false rfl _ rfl 84 rfl (congrArg some e17)) 22 (.tmp 85) (.tmp 86) _ rfl (.agg #[.int .i64 q10, .slice a10 l10.length c10]) (.string t11) e18 e19 (Go.Proofs.enters_of Try.func22 (by kernel_rfl) rfl _) (fun v y => (v = .bool PB) ∧ Below x.heap.size x y) ((iP x (hS.at n10).sls).mono ?_) ?_
        · rintro e y ⟨h0, h1⟩
          exact ⟨_, h0, rfl, h1⟩
        · rintro v y ⟨h0, hb2⟩
          exact hK v y (hS.kept hb2) (fun j u hj hne h => GSk.keep hb2 j u hj h) h0
      · have e17 : t 84 = .bool false := hdep { on := 17, ground := Ground.guard } (by simp) rfl
        have y0 := (hS.at n10).c0
        have y1 := (hS.at n10).c1
        have h2 := hK (.agg #[.int .i64 q10, .slice a10 l10.length c10]) x hS (fun j u hj hne h => h) rfl
        unfold frSk at h2 ⊢
        clear hK
        go_simp
        simpa [Act.put, e17, y0, y1, s3_, s4_, s5_, s6_, s7_, s8_, s9_, s10_, s11_, s12_, s13_, s14_, s15_, s16_, s17_, s18_] using h2
      · have e17 : t 84 = .bool false := hdep { on := 17, ground := Ground.guard } (by simp) rfl
        have h2 := hK (.string t11) x hS (fun j u hj hne h => h) rfl
        unfold frSk at h2 ⊢
        clear hK
        go_simp
        simpa [Act.put, e17, s3_, s4_, s5_, s6_, s7_, s8_, s9_, s10_, s11_, s12_, s13_, s14_, s15_, s16_, s17_, s18_] using h2
      · have e21 : t 88 = .agg #[.int .i64 q10, .slice a10 l10.length c10] := hdep { on := 21, ground := Ground.data } (by simp) rfl
        have e22 : t 89 = .string t11 := hdep { on := 22, ground := Ground.data } (by simp) rfl
        have e17 : t 84 = .bool false := hdep { on := 17, ground := Ground.guard } (by simp) rfl
        refine callG2 (wantG 17 false rfl _ rfl 84 rfl (congrArg some e17)) 23 (.tmp 88) (.tmp 89) _ rfl (.agg #[.int .i64 q10, .slice a10 l10.length c10]) (.string t11) e21 e22 (Go.Proofs.enters_of Try.func23 (by kernel_rfl) rfl _) (fun v y => (v = .bool PB) ∧ Below x.heap.size x y) ((sP x (hS.at n10).sls).mono ?_) ?_
        · rintro e y ⟨h0, h1⟩
          exact ⟨_, h0, rfl, h1⟩
        · rintro v y ⟨h0, hb2⟩
          exact hK v y (hS.kept hb2) (fun j u hj hne h => GSk.keep hb2 j u hj h) h0
      · have e20 : t 87 = .bool PB := hdep { on := 20, ground := Ground.data } (by simp) rfl
        have e23 : t 90 = .bool PB := hdep { on := 23, ground := Ground.data } (by simp) rfl
        have e17 : t 84 = .bool false := hdep { on := 17, ground := Ground.guard } (by simp) rfl
        have h2 := hK (.bool false) x hS (fun j u hj hne h => h) rfl
        unfold frSk at h2 ⊢
        clear hK
        go_simp
        simpa [Act.put, e20, e23, e17, s3_, s4_, s5_, s6_, s7_, s8_, s9_, s10_, s11_, s12_, s13_, s14_, s15_, s16_, s17_, s18_] using h2
      · have e17 : t 84 = .bool false := hdep { on := 17, ground := Ground.data } (by simp) rfl
        have e24 : t 91 = .bool false := hdep { on := 24, ground := Ground.data } (by simp) rfl
        have h2 := hK (.bool false) x hS (fun j u hj hne h => h) rfl
        unfold frSk at h2 ⊢
        clear hK
        go_simp
        simpa [Act.put, e17, e24, s3_, s4_, s5_, s6_, s7_, s8_, s9_, s10_, s11_, s12_, s13_, s14_, s15_, s16_, s17_, s18_] using h2
      · have e25 : t 92 = .bool false := hdep { on := 25, ground := Ground.data } (by simp) rfl
        have h2 := hK (.bool false) x hS (fun j u hj hne h => h) rfl
        unfold frSk at h2 ⊢
        clear hK
        go_simp
        simpa [Act.put, e25, s3_, s4_, s5_, s6_, s7_, s8_, s9_, s10_, s11_, s12_, s13_, s14_, s15_, s16_, s17_, s18_] using h2
      · have e26 : t 93 = .bool false := hdep { on := 26, ground := Ground.guard } (by simp) rfl
        have h2 := hK (.int .i64 n12) x hS (fun j u hj hne h => h) rfl
        unfold frSk at h2 ⊢
        clear hK
        go_simp
        simpa [Act.put, e26, s3_, s4_, s5_, s6_, s7_, s8_, s9_, s10_, s11_, s12_, s13_, s14_, s15_, s16_, s17_, s18_] using h2
      · have e26 : t 93 = .bool false := hdep { on := 26, ground := Ground.guard } (by simp) rfl
        have h2 := hK (.string t13) x hS (fun j u hj hne h => h) rfl
        unfold frSk at h2 ⊢
        clear hK
        go_simp
        simpa [Act.put, e26, s3_, s4_, s5_, s6_, s7_, s8_, s9_, s10_, s11_, s12_, s13_, s14_, s15_, s16_, s17_, s18_] using h2
      · have e27 : t 94 = .int .i64 n12 := hdep { on := 27, ground := Ground.data } (by simp) rfl
        have e28 : t 95 = .string t13 := hdep { on := 28, ground := Ground.data } (by simp) rfl
        have e26 : t 93 = .bool false := hdep { on := 26, ground := Ground.guard } (by simp) rfl
        refine callG2 (wantG 26 false rfl _ rfl 93 rfl (congrArg some e26)) 25 (.tmp 94) (.tmp 95) _ rfl (.int .i64 n12) (.string t13) e27 e28 (Go.Proofs.enters_of Try.func25 (by kernel_rfl) rfl _) (fun v y => (∃ (p1 : Option Addr) (d1 : Nat), v = .slice p1 MM.length d1 ∧ Sls intE y (.slice p1 MM.length d1) MM) ∧ Below x.heap.size x y) ((iK x).mono ?_) ?_
        · rintro e y ⟨g, c, h0, h1, h2⟩
          exact ⟨_, h0, ⟨_, c, rfl, h1.sls⟩, h2⟩
        · rintro v y ⟨h0, hb2⟩
          exact hK v y (hS.kept hb2) (fun j u hj hne h => GSk.keep hb2 j u hj h) h0
      · have e26 : t 93 = .bool false := hdep { on := 26, ground := Ground.guard } (by simp) rfl
        have h2 := hK (.int .i64 n12) x hS (fun j u hj hne h => h) rfl
        unfold frSk at h2 ⊢
        clear hK
        go_simp
        simpa [Act.put, e26, s3_, s4_, s5_, s6_, s7_, s8_, s9_, s10_, s11_, s12_, s13_, s14_, s15_, s16_, s17_, s18_] using h2
      · have e26 : t 93 = .bool false := hdep { on := 26, ground := Ground.guard } (by simp) rfl
        have h2 := hK (.string t13) x hS (fun j u hj hne h => h) rfl
        unfold frSk at h2 ⊢
        clear hK
        go_simp
        simpa [Act.put, e26, s3_, s4_, s5_, s6_, s7_, s8_, s9_, s10_, s11_, s12_, s13_, s14_, s15_, s16_, s17_, s18_] using h2
      · have e30 : t 97 = .int .i64 n12 := hdep { on := 30, ground := Ground.data } (by simp) rfl
        have e31 : t 98 = .string t13 := hdep { on := 31, ground := Ground.data } (by simp) rfl
        have e26 : t 93 = .bool false := hdep { on := 26, ground := Ground.guard } (by simp) rfl
        refine callG2 (wantG 26 false rfl _ rfl 93 rfl (congrArg some e26)) 26 (.tmp 97) (.tmp 98) _ rfl (.int .i64 n12) (.string t13) e30 e31 (Go.Proofs.enters_of Try.func26 (by kernel_rfl) rfl _) (fun v y => (∃ (p1 : Option Addr) (d1 : Nat), v = .slice p1 MM.length d1 ∧ Sls intE y (.slice p1 MM.length d1) MM) ∧ Below x.heap.size x y) ((sK x).mono ?_) ?_
        · rintro e y ⟨g, c, h0, h1, h2⟩
          exact ⟨_, h0, ⟨_, c, rfl, h1.sls⟩, h2⟩
        · rintro v y ⟨h0, hb2⟩
          exact hK v y (hS.kept hb2) (fun j u hj hne h => GSk.keep hb2 j u hj h) h0
      · obtain ⟨p29, d29, e29, k29⟩ : ∃ (p1 : Option Addr) (d1 : Nat), t 96 = .slice p1 MM.length d1 ∧ Sls intE x (.slice p1 MM.length d1) MM := hdep { on := 29, ground := Ground.data } (by simp) rfl
        obtain ⟨p32, d32, e32, k32⟩ : ∃ (p1 : Option Addr) (d1 : Nat), t 99 = .slice p1 MM.length d1 ∧ Sls intE x (.slice p1 MM.length d1) MM := hdep { on := 32, ground := Ground.data } (by simp) rfl
        have e26 : t 93 = .bool false := hdep { on := 26, ground := Ground.guard } (by simp) rfl
        refine callG2 (wantG 26 false rfl _ rfl 93 rfl (congrArg some e26)) 24 (.tmp 96) (.tmp 99) _ rfl (.slice p29 MM.length d29) (.slice p32 MM.length d32) e29 e32 (Go.Proofs.enters_of Try.func24 (by kernel_rfl) rfl _) (fun v y => (v = .bool true) ∧ Below x.heap.size x y) ((hLM _ _ x k29 k32).mono ?_) ?_
        · rintro e y ⟨h0, h1⟩
          exact ⟨_, h0, rfl, h1.low⟩
        · rintro v y ⟨h0, hb2⟩
          exact hK v y (hS.kept hb2) (fun j u hj hne h => GSk.keep hb2 j u hj h) h0
      · have e33 : t 100 = .bool true := hdep { on := 33, ground := Ground.data } (by simp) rfl
        have e26 : t 93 = .bool false := hdep { on := 26, ground := Ground.guard } (by simp) rfl
        have h2 := hK (.bool false) x hS (fun j u hj hne h => h) rfl
        unfold frSk at h2 ⊢
        clear hK
        go_simp
        simpa [Act.put, e33, e26, s3_, s4_, s5_, s6_, s7_, s8_, s9_, s10_, s11_, s12_, s13_, s14_, s15_, s16_, s17_, s18_] using h2
      · have e26 : t 93 = .bool false := hdep { on := 26, ground := Ground.data } (by simp) rfl
        have e34 : t 101 = .bool false := hdep { on := 34, ground := Ground.data } (by simp) rfl
        have h2 := hK (.bool false) x hS (fun j u hj hne h => h) rfl
        unfold frSk at h2 ⊢
        clear hK
        go_simp
        simpa [Act.put, e26, e34, s3_, s4_, s5_, s6_, s7_, s8_, s9_, s10_, s11_, s12_, s13_, s14_, s15_, s16_, s17_, s18_] using h2
      · have e35 : t 102 = .bool false := hdep { on := 35, ground := Ground.data } (by simp) rfl
        have h2 := hK (.bool false) x hS (fun j u hj hne h => h) rfl
        unfold frSk at h2 ⊢
        clear hK
        go_simp
        simpa [Act.put, e35, s3_, s4_, s5_, s6_, s7_, s8_, s9_, s10_, s11_, s12_, s13_, s14_, s15_, s16_, s17_, s18_] using h2
      · have e36 : t 103 = .bool false := hdep { on := 36, ground := Ground.guard } (by simp) rfl
        have y0 := (hS.at n3).c0
        have y1 := (hS.at n3).c1
        have h2 := hK (.agg #[.int .i64 q3, .slice a3 l3.length c3]) x hS (fun j u hj hne h => h) rfl
        unfold frSk at h2 ⊢
        clear hK
        go_simp
        simpa [Act.put, e36, y0, y1, s3_, s4_, s5_, s6_, s7_, s8_, s9_, s10_, s11_, s12_, s13_, s14_, s15_, s16_, s17_, s18_] using h2
      · have e37 : t 104 = .agg #[.int .i64 q3, .slice a3 l3.length c3] := hdep { on := 37, ground := Ground.data } (by simp) rfl
        have e36 : t 103 = .bool false := hdep { on := 36, ground := Ground.guard } (by simp) rfl
        refine callG1 (wantG 36 false rfl _ rfl 103 rfl (congrArg some e36)) 27 (.tmp 104) _ rfl (.agg #[.int .i64 q3, .slice a3 l3.length c3]) e37 (Go.Proofs.enters_of Try.func27 (by kernel_rfl) rfl _) (fun v y => (v = .bool OO) ∧ Below x.heap.size x y) ((iO x (hS.at n3).sls).mono ?_) ?_
        · rintro e y ⟨h0, h1⟩
          exact ⟨_, h0, rfl, h1⟩
        · rintro v y ⟨h0, hb2⟩
          exact hK v y (hS.kept hb2) (fun j u hj hne h => GSk.keep hb2 j u hj h) h0
      · have e36 : t 103 = .bool false := hdep { on := 36, ground := Ground.guard } (by simp) rfl
        have y0 := (hS.at n3).c0
        have y1 := (hS.at n3).c1
        have h2 := hK (.agg #[.int .i64 q3, .slice a3 l3.length c3]) x hS (fun j u hj hne h => h) rfl
        unfold frSk at h2 ⊢
        clear hK
        go_simp
        simpa [Act.put, e36, y0, y1, s3_, s4_, s5_, s6_, s7_, s8_, s9_, s10_, s11_, s12_, s13_, s14_, s15_, s16_, s17_, s18_] using h2
      · have e39 : t 106 = .agg #[.int .i64 q3, .slice a3 l3.length c3] := hdep { on := 39, ground := Ground.data } (by simp) rfl
        have e36 : t 103 = .bool false := hdep { on := 36, ground := Ground.guard } (by simp) rfl
        refine callG1 (wantG 36 false rfl _ rfl 103 rfl (congrArg some e36)) 28 (.tmp 106) _ rfl (.agg #[.int .i64 q3, .slice a3 l3.length c3]) e39 (Go.Proofs.enters_of Try.func28 (by kernel_rfl) rfl _) (fun v y => (v = .bool OO) ∧ Below x.heap.size x y) ((sO x (hS.at n3).sls).mono ?_) ?_
        · rintro e y ⟨h0, h1⟩
          exact ⟨_, h0, rfl, h1⟩
        · rintro v y ⟨h0, hb2⟩
          exact hK v y (hS.kept hb2) (fun j u hj hne h => GSk.keep hb2 j u hj h) h0
      · have e38 : t 105 = .bool OO := hdep { on := 38, ground := Ground.data } (by simp) rfl
        have e40 : t 107 = .bool OO := hdep { on := 40, ground := Ground.data } (by simp) rfl
        have e36 : t 103 = .bool false := hdep { on := 36, ground := Ground.guard } (by simp) rfl
        have h2 := hK (.bool false) x hS (fun j u hj hne h => h) rfl
        unfold frSk at h2 ⊢
        clear hK
        go_simp
        simpa [Act.put, e38, e40, e36, s3_, s4_, s5_, s6_, s7_, s8_, s9_, s10_, s11_, s12_, s13_, s14_, s15_, s16_, s17_, s18_] using h2
    case done =>
      intro t x hS hG
      have e36 : t 103 = .bool false := hG 36 (by decide)
      have e41 : t 108 = .bool false := hG 41 (by decide)
      have HS : Hid (Hold w x L) := hS
      clear hG hS S0 H14 hL8 hL5 iP sP iK sK hLM iO sO sM iM sB iB hiK spK spP hLn
      show wpList Try.prog _ _ [_] _ x
      unfold frSk
      simp only [e36, e41, s3_, s4_, s5_, s6_, s7_, s8_, s9_, s10_, s11_, s12_, s13_, s14_, s15_, s16_, s17_, s18_]
      clear e36 e41 s3_ s4_ s5_ s6_ s7_ s8_ s9_ s10_ s11_ s12_ s13_ s14_ s15_ s16_ s17_ s18_
      go_wp2_with fail
      refine (sN _).mono ?_
      rintro e w30 ⟨rfl, hb⟩
      have H19 : Hid (Hold w (w30.alloc (.cells #[.int .i64 q15, .slice none 0 0] 26)) (⟨w30.heap.size, q15, .slice none 0 0, []⟩ :: L)) := (show Hid _ from (HS.out.kept hb).box q15 (.slice none 0 0) [] (Sls.nil (Nat.zero_le _)))
      clear hb HS sN iN
      go_upto_region 15 with fail
      generalize w30.heap.size = m19 at *
      generalize w30.alloc (.cells #[.int .i64 q15, .slice none 0 0] 26) = w31 at H19 ⊢
      have hL15 := fun W h1 h2 => hLk q15 (.slice a15 l15.length c15) (.slice none 0 0) l15 W h1 h2 (by omega)
      have iOz := fun W h => hiO q15 (.slice a15 l15.length c15) l15 W h
      go_cut [131] from 115 to 131 (fun s wx => s = .bool false ∧ Hid (Hold w wx L))
      case first =>
        have z15 := H19.out.at (List.mem_cons_of_mem _ n15)
        have z19 := H19.out.at List.mem_cons_self
        have y0 := z15.c0
        have y1 := z15.c1
        have y2 := z19.c0
        have y3 := z19.c1
        have hS1 : Hid (Sls intE w31 (.slice none 0 0) l15) := by rw [HL15.out]; exact Sls.nil (Nat.zero_le _)
        have hS2 : Hid (Sls intE w31 (.slice a15 l15.length c15) l15) := z15.sls
        have hff : (fine != fine) = false := by simp
        clear z15 z19
        go_wp2_with fail
        refine (hL15 _ hS2.out hS1.out).mono ?_
        rintro e w32 ⟨rfl, hg⟩
        have HQ : Hid (Hold w w32 L) := (show Hid _ from ⟨(H19.out.kept hg.low).1, fun b hb => (H19.out.kept hg.low).2 b (List.mem_cons_of_mem _ hb)⟩)
        clear hg H19 y0 y1 y2 y3 hS1 hS2 hff
        cases fine with
        | false =>
          go_wp2_with fail
          go_meet
          exact ⟨rfl, HQ⟩
        | true =>
          have y0 := (HQ.out.at n15).c0
          have y1 := (HQ.out.at n15).c1
          have hsk := HSN.out rfl
          rw [hsk] at iOz
          go_wp2_with fail
          refine (iOz _ (HQ.out.at n15).sls).mono ?_
          rintro e w33 ⟨rfl, hb⟩
          have HR : Hid (Hold w w33 L) := (show Hid _ from HQ.out.kept hb)
          clear hb HQ y0 y1
          go_wp2_with fail
          go_meet
          exact ⟨rfl, HR⟩
      case rest =>
        obtain ⟨rfl, H20⟩ := hcut
        obtain ⟨w34, rfl⟩ : ∃ z, z = wc := ⟨wc, rfl⟩
        clear H19 hL15 iOz hLk
        have T0 : Hid (Hold w (w34.alloc (.cells #[.string ⟨#[104, 47, 97, 49]⟩, .string ⟨#[107]⟩, .string t13] 9)) L) := (show Hid _ from H20.out.more _)
        have X0 : Hid (Bx (w34.alloc (.cells #[.string ⟨#[104, 47, 97, 49]⟩, .string ⟨#[107]⟩, .string t13] 9)) w34.heap.size 9 #[.string ⟨#[104, 47, 97, 49]⟩, .string ⟨#[107]⟩, .string t13]) := (show Hid _ from Bx.new _ _ _)
        clear H20
        go_wp2_with fail
        generalize w34.heap.size = mt at *
        generalize w34.alloc (.cells #[.string ⟨#[104, 47, 97, 49]⟩, .string ⟨#[107]⟩, .string t13] 9) = w35 at T0 X0 ⊢
        go_loopw [135] (fun i wr => ∃ j : Nat, j ≤ 3 ∧ i = .int .i64 j ∧ Hid (Hold w wr L) ∧ Hid (Bx wr mt 9 #[.string ⟨#[104, 47, 97, 49]⟩, .string ⟨#[107]⟩, .string t13])) (fun i _ => 3 - (intOf i).toNat)
        case atStart => exact ⟨0, Nat.zero_le _, rfl, T0, X0⟩
        case round =>
          clear T0 X0
          obtain ⟨j, hj, rfl, T1, X1⟩ := hrel
          by_cases hlt : j < 3
          · obtain ⟨ws, hws, hcs⟩ : ∃ ws : ByteArray, ws.size ≤ 1048576 ∧ wr.cell? ⟨mt, j, none⟩ = some (.string ws) := by
              rw [X1.out.cell]
              rcases (by omega : j = 0 ∨ j = 1 ∨ j = 2) with rfl | rfl | rfl
              · exact ⟨_, by decide, rfl⟩
              · exact ⟨_, by decide, rfl⟩
              · exact ⟨t13, by omega, rfl⟩
            have hji : (j : Int) < 3 := by omega
            have p6 := fun W h => hiP q6 (.slice a6 l6.length c6) l6 ws W h hws
            have p7 := fun W h => hiP q7 (.slice a7 l7.length c7) l7 ws W h hws
            have p8 := fun W h => hiP q8 (.slice a8 l8.length c8) l8 ws W h hws
            have p3 := fun W h => hiP q3 (.slice a3 l3.length c3) l3 ws W h hws
            have p5 := fun W h => hiP q5 (.slice a5 l5.length c5) l5 ws W h hws
            have HB6 : Hid (bb = true → prhB q6 l6 ws = true ∨ prhB q7 l7 ws = true → prhB q8 l8 ws = true) := (show _ → _ from HBS.out ws)
            have HS5 : Hid (prhB q3 l3 ws = true → prhB q5 l5 ws = true) := (show _ → _ from HST.out ws)
            generalize prhB q6 l6 ws = P6 at p6 HB6
            generalize prhB q7 l7 ws = P7 at p7 HB6
            generalize prhB q8 l8 ws = P8 at p8 HB6
            generalize prhB q3 l3 ws = P3 at p3 HS5
            generalize prhB q5 l5 ws = P5 at p5 HS5
            go_upto_region 20 with fail
            clear hcs
            go_cut [155] from 139 to 155 (fun s wx => s = .bool false ∧ Hid (Hold w wx L) ∧ Hid (Bx wx mt 9 #[.string ⟨#[104, 47, 97, 49]⟩, .string ⟨#[107]⟩, .string t13]))
            case first =>
              cases bb with
              | false =>
                go_wp2_with fail
                go_meet
                exact ⟨rfl, T1, X1⟩
              | true =>
                have y0 := (T1.out.at n6).c0
                have y1 := (T1.out.at n6).c1
                go_wp2_with fail
                refine (p6 _ (T1.out.at n6).sls).mono ?_
                rintro e w36 ⟨rfl, hb⟩
                have T2 : Hid (Hold w w36 L) := (show Hid _ from T1.out.kept hb)
                have X2 : Hid (Bx w36 mt 9 #[.string ⟨#[104, 47, 97, 49]⟩, .string ⟨#[107]⟩, .string t13]) := (show Hid _ from X1.out.kept hb)
                clear hb T1 X1 y0 y1
                cases P6 with
                | true =>
                  obtain rfl : P8 = true := by have := HB6.out; simpa using this
                  have y0 := (T2.out.at n8).c0
                  have y1 := (T2.out.at n8).c1
                  go_wp2_with fail
                  refine (p8 _ (T2.out.at n8).sls).mono ?_
                  rintro e w37 ⟨rfl, hb⟩
                  have T3 : Hid (Hold w w37 L) := (show Hid _ from T2.out.kept hb)
                  have X3 : Hid (Bx w37 mt 9 #[.string ⟨#[104, 47, 97, 49]⟩, .string ⟨#[107]⟩, .string t13]) := (show Hid _ from X2.out.kept hb)
                  clear hb T2 X2 y0 y1
                  go_wp2_with fail
                  go_meet
                  exact ⟨rfl, T3, X3⟩
                | false =>
                  have y0 := (T2.out.at n7).c0
                  have y1 := (T2.out.at n7).c1
                  go_wp2_with fail
                  refine (p7 _ (T2.out.at n7).sls).mono ?_
                  rintro e w37 ⟨rfl, hb⟩
                  have T3 : Hid (Hold w w37 L) := (show Hid _ from T2.out.kept hb)
                  have X3 : Hid (Bx w37 mt 9 #[.string ⟨#[104, 47, 97, 49]⟩, .string ⟨#[107]⟩, .string t13]) := (show Hid _ from X2.out.kept hb)
                  clear hb T2 X2 y0 y1
                  cases P7 with
                  | true =>
                    obtain rfl : P8 = true := by have := HB6.out; simpa using this
                    have y0 := (T3.out.at n8).c0
                    have y1 := (T3.out.at n8).c1
                    go_wp2_with fail
                    refine (p8 _ (T3.out.at n8).sls).mono ?_
                    rintro e w38 ⟨rfl, hb⟩
                    have T4 : Hid (Hold w w38 L) := (show Hid _ from T3.out.kept hb)
                    have X4 : Hid (Bx w38 mt 9 #[.string ⟨#[104, 47, 97, 49]⟩, .string ⟨#[107]⟩, .string t13]) := (show Hid _ from X3.out.kept hb)
                    clear hb T3 X3 y0 y1
                    go_wp2_with fail
                    go_meet
                    exact ⟨rfl, T4, X4⟩
                  | false =>
                    go_wp2_with fail
                    go_meet
                    exact ⟨rfl, T3, X3⟩
            case rest =>
              obtain ⟨rfl, T2, X2⟩ := hcut
              obtain ⟨w39, rfl⟩ : ∃ z, z = wc := ⟨wc, rfl⟩
              clear T1 X1 p6 p7 p8 HB6
              go_upto_region 22 with fail
              go_cut [164] from 156 to 164 (fun s wx => s = .bool false ∧ Hid (Hold w wx L) ∧ Hid (Bx wx mt 9 #[.string ⟨#[104, 47, 97, 49]⟩, .string ⟨#[107]⟩, .string t13]))
              case first =>
                have y0 := (T2.out.at n3).c0
                have y1 := (T2.out.at n3).c1
                go_wp2_with fail
                refine (p3 _ (T2.out.at n3).sls).mono ?_
                rintro e w40 ⟨rfl, hb⟩
                have T3 : Hid (Hold w w40 L) := (show Hid _ from T2.out.kept hb)
                have X3 : Hid (Bx w40 mt 9 #[.string ⟨#[104, 47, 97, 49]⟩, .string ⟨#[107]⟩, .string t13]) := (show Hid _ from X2.out.kept hb)
                clear hb T2 X2 y0 y1
                cases P3 with
                | false =>
                  go_wp2_with fail
                  go_meet
                  exact ⟨rfl, T3, X3⟩
                | true =>
                  obtain rfl : P5 = true := HS5.out rfl
                  have y0 := (T3.out.at n5).c0
                  have y1 := (T3.out.at n5).c1
                  go_wp2_with fail
                  refine (p5 _ (T3.out.at n5).sls).mono ?_
                  rintro e w41 ⟨rfl, hb⟩
                  have T4 : Hid (Hold w w41 L) := (show Hid _ from T3.out.kept hb)
                  have X4 : Hid (Bx w41 mt 9 #[.string ⟨#[104, 47, 97, 49]⟩, .string ⟨#[107]⟩, .string t13]) := (show Hid _ from X3.out.kept hb)
                  clear hb T3 X3 y0 y1
                  go_wp2_with fail
                  go_meet
                  exact ⟨rfl, T4, X4⟩
              case rest =>
                obtain ⟨rfl, T3, X3⟩ := hcut
                obtain ⟨w42, rfl⟩ : ∃ z, z = wc := ⟨wc, rfl⟩
                clear T2 X2 p3 p5 HS5
                go_wp2
                go_roundw
                case rel => exact ⟨j + 1, by omega, by go_num, T3, X3⟩
                case measure => simp [intOf]; omega
          · obtain rfl : j = 3 := by omega
            have y0 := (T1.out.at n3).c0
            have y1 := (T1.out.at n3).c1
            have o3 := fun W h => hiO q3 (.slice a3 l3.length c3) l3 W h
            have o5 := fun W h => hiO q5 (.slice a5 l5.length c5) l5 W h
            have p5 := fun W h => hiP q5 (.slice a5 l5.length c5) l5 k W h (by omega)
            cases hok : skOk q3 l3 with
            | false =>
              rw [hok] at o3
              have h0 := HNT.out hok
              have H0 : Hid (l5.length = 0) := h0
              have h0i : (l5.length : Int) = 0 := by omega
              clear h0
              go_wp2_with fail
              refine (o3 _ (T1.out.at n3).sls).mono ?_
              rintro e w43 ⟨rfl, hb⟩
              have T2 : Hid (Hold w w43 L) := (show Hid _ from T1.out.kept hb)
              clear hb T1 y0 y1
              have y0 := (T2.out.at n5).c0
              have y1 := (T2.out.at n5).c1
              go_wp2
              go_ret
              exact ⟨rfl, T2.out.1⟩
            | true =>
              rw [hok] at o3
              obtain ⟨h1, h2, h3⟩ := HTH.out hok
              rw [h1] at o5
              rw [h2] at p5
              have h3i : ¬ (l5.length : Int) < (l3.length : Int) := by omega
              clear h1 h2 hok
              go_wp2_with fail
              refine (o3 _ (T1.out.at n3).sls).mono ?_
              rintro e w43 ⟨rfl, hb⟩
              have T2 : Hid (Hold w w43 L) := (show Hid _ from T1.out.kept hb)
              clear hb T1 y0 y1
              have y0 := (T2.out.at n5).c0
              have y1 := (T2.out.at n5).c1
              go_wp2_with fail
              refine (o5 _ (T2.out.at n5).sls).mono ?_
              rintro e w44 ⟨rfl, hb⟩
              have T3 : Hid (Hold w w44 L) := (show Hid _ from T2.out.kept hb)
              clear hb T2 y0 y1
              have y0 := (T3.out.at n5).c0
              have y1 := (T3.out.at n5).c1
              go_wp2_with fail
              refine (p5 _ (T3.out.at n5).sls).mono ?_
              rintro e w45 ⟨rfl, hb⟩
              have T4 : Hid (Hold w w45 L) := (show Hid _ from T3.out.kept hb)
              clear hb T3 y0 y1
              have y0 := (T4.out.at n5).c0
              have y1 := (T4.out.at n5).c1
              have z0 := (T4.out.at n3).c0
              have z1 := (T4.out.at n3).c1
              go_wp2
              go_ret
              exact ⟨rfl, T4.out.1⟩
end Go.Proofs.Ytdoolnaekmffbaa

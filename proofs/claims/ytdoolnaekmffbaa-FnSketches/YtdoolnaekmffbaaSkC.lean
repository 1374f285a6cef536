/-
  The specification's Marks and Marked.
-/
import Derived.Test.YtdoolnaekmffbaaSkB
import Derived.Test.YtdoolnaekmffbaaRowS
namespace Go.Proofs.Ytdoolnaekmffbaa
open Go.RowKit Go.Sort Ow Sk
set_option linter.unusedVariables false
set_option linter.unusedSimpArgs false

/-- The key with some dots behind it. -/
def keyD (key : ByteArray) : Nat → ByteArray
  | 0 => key
  | n + 1 => keyD key n ++ ⟨#[46]⟩
theorem keyD_list (key : ByteArray) : ∀ n, (keyD key n).data.toList = key.data.toList ++ dots n
  | 0 => by simp [keyD, dots]
  | n + 1 => by
    have e : (keyD key (n + 1)).data.toList = (keyD key n).data.toList ++ [46] := by simp [keyD]
    rw [e, keyD_list key n, List.append_assoc]
    rfl
theorem keyD_size (key : ByteArray) : ∀ n, (keyD key n).size = key.size + n
  | 0 => rfl
  | n + 1 => by
    show (keyD key n ++ ⟨#[46]⟩).size = _
    rw [ByteArray.size_append, keyD_size key n]
    show key.size + n + 1 = _
    omega
set_option maxRecDepth 100000 in
set_option maxHeartbeats 2000000 in
theorem specMks (n : Int) (key : ByteArray) (w : World) (hk : key.size ≤ 1048576) :
    Calls Try.prog 26 #[.int .i64 n, .string key] w fun e w' => ∃ g c, e = .returned (.slice (some ⟨g, 0, none⟩) (mksV n key).length c) ∧ OwnsN w' w.heap.size (.slice (some ⟨g, 0, none⟩) (mksV n key).length c) (mksV n key) ∧ Below w.heap.size w w' := by
  have hS := fun W => specSz n W
  have B0 : Hid (Below w.heap.size w (w.alloc (.cells #[] 2))) := (Below.refl _ w).alloc (Nat.le_refl _) _
  have O0 : Hid (OwnsN (w.alloc (.cells #[] 2)) w.heap.size (.slice (some ⟨w.heap.size, 0, none⟩) 0 0) []) := (show Hid _ from OwnsE.born (E := intE) (ty := 2) w)
  cases hsz : szOk n with
  | false =>
    have HR : Hid (mksV n key = []) := by show _ = _; unfold mksV; rw [hsz]; rfl
    rw [hsz] at hS
    go_enter Try.func26, Try.ntmps26
    go_wp2_with fail
    refine (hS _).mono ?_
    rintro e w1 ⟨rfl, rfl⟩
    go_wp2
    go_ret
    exact ⟨_, _, by rw [HR.out]; rfl, by rw [HR.out]; exact O0.out, B0.out⟩
  | true =>
    have HR : Hid (mksV n key = mksL n key 3) := by show _ = _; unfold mksV; rw [hsz]; rfl
    have hn : 8 ≤ n ∧ n ≤ 512 := of_decide_eq_true hsz
    rw [hsz] at hS
    clear hsz
    go_enter Try.func26, Try.ntmps26
    go_wp2_with fail
    refine (hS _).mono ?_
    rintro e w1 ⟨rfl, rfl⟩
    go_wp2_with fail
    go_loopw [1, 5, 6] (fun kk u i wr => ∃ (m g c : Nat), m ≤ 3 ∧ i = .int .i64 m ∧ kk = .string (keyD key m) ∧ u = .slice (some ⟨g, 0, none⟩) (mksL n key m).length c ∧ Hid (OwnsN wr w.heap.size (.slice (some ⟨g, 0, none⟩) (mksL n key m).length c) (mksL n key m)) ∧ Hid (Below w.heap.size w wr)) (fun _ _ i _ => 3 - (intOf i).toNat)
    case atStart => exact ⟨0, _, _, by omega, rfl, rfl, rfl, O0, B0⟩
    case round =>
      clear O0 B0
      obtain ⟨m, g, c, hm, rfl, rfl, rfl, ho, hb⟩ := hrel
      by_cases hlt : m < 3
      · have hmi : (m : Int) < 3 := by omega
        have hh := fun W => specHsh (keyD key m) W (by rw [keyD_size]; unfold maxLen; omega)
        have hp := fun W hW hB => specPut g c (mksL n key m) (Sk.mkN n key m) w.heap.size W hW (mksL_ris n key m) (by have := mksL_length n key m; omega) hB
        rw [← mksL_next] at hp
        have hks := keyD_size key m
        have hmk : Int.tmod (hshL (keyD key m).data.toList : Int) n = Sk.mkN n key m := by
          rw [Int.tmod_eq_emod_of_nonneg (by omega), keyD_list]
          rfl
        generalize hshL (keyD key m).data.toList = H at hh hmk
        have hn0 : ¬ n = 0 := by omega
        have HN : Hid (keyD key (m + 1) = keyD key m ++ ⟨#[46]⟩) := (show _ = _ from rfl)
        generalize Sk.mkN n key m = z at hp hmk
        generalize keyD key m = K at hh hks HN
        generalize mksL n key m = L at ho hp
        go_wp2_with fail
        refine (hh _).mono ?_
        rintro e w2 ⟨rfl, rfl⟩
        go_wp2_with fail
        refine (hp _ ho.out hb.out.size).mono ?_
        rintro e w3 ⟨g3, c3, rfl, ho3, hb3⟩
        have O3 : Hid (OwnsN w3 w.heap.size (.slice (some ⟨g3, 0, none⟩) (mksL n key (m + 1)).length c3) (mksL n key (m + 1))) := ho3
        have B3 : Hid (Below w.heap.size w w3) := (show Hid _ from pastK hb.out hb3)
        clear ho3 hb3 ho hb hp hh
        go_wp2
        go_roundw
        case rel => exact ⟨m + 1, g3, c3, by omega, by go_num, by rw [HN.out], rfl, O3, B3⟩
        case measure => simp [intOf]; omega
      · obtain rfl : m = 3 := by omega
        go_wp2
        go_ret
        exact ⟨g, c, by rw [HR.out]; rfl, by rw [HR.out]; exact ho.out, hb.out⟩
/-- What lies there while a sketch is marked: the argument's box, the answer's. -/
structure Kd (w W : World) (n : Int) (a : Option Addr) (cap : Nat) (l : List Int) : Prop where
  low : Below w.heap.size w W
  sx : Bx W w.heap.size 26 #[.int .i64 n, .slice a l.length cap]
  rx : Bx W (w.heap.size + 1) 26 #[.int .i64 0, .slice none 0 0]
  sl : Sls intE W (.slice a l.length cap) l
theorem Kd.kept {w W W' : World} {n : Int} {a : Option Addr} {cap : Nat} {l : List Int} (h : Kd w W n a cap l) (hb : Below W.heap.size W W') : Kd w W' n a cap l :=
  ⟨pastK h.low hb, h.sx.kept hb, h.rx.kept hb, h.sl.kept hb⟩
theorem Kd.grown {w W W' : World} {n : Int} {a : Option Addr} {cap : Nat} {l : List Int} (h : Kd w W n a cap l) {r : Option Nat} {B : Nat} (hB : w.heap.size + 2 ≤ B) (hg : W.grownBy W' r) (hr : ∀ k, r = some k → B ≤ k) (hw : Sls intE w (.slice a l.length cap) l) : Kd w W' n a cap l := by
  have hlow := belowE h.low hg h.low.size (fun k hk => by have := hr k hk; omega)
  exact ⟨hlow, h.sx.grown hg (fun e => by have := hr _ e; omega), h.rx.grown hg (fun e => by have := hr _ e; omega), hw.kept hlow⟩
theorem Kd.new (w : World) (n : Int) (a : Option Addr) (cap : Nat) (l : List Int) (h : Sls intE w (.slice a l.length cap) l) : Kd w ((w.alloc (.cells #[.int .i64 n, .slice a l.length cap] 26)).alloc (.cells #[.int .i64 0, .slice none 0 0] 26)) n a cap l := by
  have h1 : Below w.heap.size w ((w.alloc (.cells #[.int .i64 n, .slice a l.length cap] 26)).alloc (.cells #[.int .i64 0, .slice none 0 0] 26)) := ((Below.refl _ w).alloc (Nat.le_refl _) _).alloc (by simp) _
  have h2 := Bx.new (w.alloc (.cells #[.int .i64 n, .slice a l.length cap] 26)) 26 #[.int .i64 0, .slice none 0 0]
  have e : (w.alloc (.cells #[.int .i64 n, .slice a l.length cap] 26)).heap.size = w.heap.size + 1 := by simp
  rw [e] at h2
  exact ⟨h1, (Bx.new w 26 _).alloc _, h2, h.kept h1⟩
set_option maxRecDepth 100000 in
set_option maxHeartbeats 4000000 in
theorem specMrk (n : Int) (v : Value) (l : List Int) (key : ByteArray) (w : World) (h : Sls intE w v l) (hk : key.size ≤ 1048576) :
    Calls Try.prog 21 #[skV n v, .string key] w fun e w' => ∃ u, e = .returned (skV (mrkQ n l) u) ∧ OwnsN w' w.heap.size u (mrkL n l key) ∧ Below w.heap.size w w' := by
  obtain ⟨a, cap, rfl, _⟩ := h.one
  have hS := fun W hW => specSko n (.slice a l.length cap) l W hW
  have K0 : Hid (Kd w ((w.alloc (.cells #[.int .i64 n, .slice a l.length cap] 26)).alloc (.cells #[.int .i64 0, .slice none 0 0] 26)) n a cap l) := Kd.new w n a cap l h
  have HW : Hid (Sls intE w (.slice a l.length cap) l) := h
  have hz0 : ((w.alloc (.cells #[.int .i64 n, .slice a l.length cap] 26)).alloc (.cells #[.int .i64 0, .slice none 0 0] 26)).heap.size = w.heap.size + 2 := by simp
  unfold skV at *
  clear h
  go_enter Try.func21, Try.ntmps21
  generalize hwA : (w.alloc (.cells #[.int .i64 n, .slice a l.length cap] 26)).alloc (.cells #[.int .i64 0, .slice none 0 0] 26) = wA at K0 hz0
  have x0 := K0.out.sx.cell 0
  have x1 := K0.out.sx.cell 1
  go_wp2_with fail
  refine (hS _ K0.out.sl).mono ?_
  rintro e w1 ⟨rfl, hb1⟩
  have K1 : Hid (Kd w w1 n a cap l) := K0.out.kept hb1
  have hz1 : w.heap.size + 2 ≤ w1.heap.size := by have := hb1.size; omega
  clear hb1 K0 x0 x1 hwA hz0 hS
  cases hok : skOk n l with
  | false =>
    have HQ : Hid (mrkQ n l = 0 ∧ mrkL n l key = []) := by
      show _ ∧ _
      unfold mrkQ mrkL
      rw [hok]
      exact ⟨rfl, rfl⟩
    have y0 := K1.out.rx.cell 0
    have y1 := K1.out.rx.cell 1
    have f0 := K1.out.rx.free 0
    have f1 := K1.out.rx.free 1
    go_wp2
    refine bodyPost_ret (v := .agg #[.int .i64 0, .slice none 0 0]) (by simp [results, Try.results21, go_sem, y0, y1]) rfl ⟨_, by rw [HQ.out.1], by rw [HQ.out.2]; exact OwnsE.none _ _, (K1.out.low.setCell (Nat.le_succ _) _).setCell (Nat.le_succ _) _⟩
  | true =>
    have hs := skOk_iff.1 hok
    have hl5 := hs.few
    have HRis : Hid (l.Pairwise (· < ·)) := hs.ris
    have HQ : Hid (mrkQ n l = n ∧ mrkL n l key = putAll (mksV n key) l) := by
      show _ ∧ _
      unfold mrkQ mrkL
      rw [hok]
      exact ⟨rfl, rfl⟩
    have hMk := fun W => specMks n key W hk
    have hm3 := mksV_length n key
    generalize mksV n key = MM at hMk hm3 HQ
    have y0 := K1.out.sx.cell 0
    have y1 := K1.out.sx.cell 1
    have yl : w.heap.size < w1.heap.size := by omega
    have O1 : Hid (OwnsN (w1.alloc (.cells #[] 2)) w1.heap.size (.slice (some ⟨w1.heap.size, 0, none⟩) 0 0) []) := (show Hid _ from OwnsE.born (E := intE) (ty := 2) w1)
    have S1 : Hid (Sls intE (w1.alloc (.cells #[] 2)) (.slice a l.length cap) l) := K1.out.sl.kept ((Below.refl _ w1).alloc (Nat.le_refl _) _)
    clear hs hok
    go_wp2_with (
      at_builtin
      refine wpList_rowS (E := intE) _ rfl (.tmp 12) (.tmp 14) 24 2 (.int .i64 0) 8 Try.underlying24 Try.infoN2 rfl rfl w1.heap.size (.slice (some ⟨w1.heap.size, 0, none⟩) 0 0) [] rfl O1.out (.slice a l.length cap) l rfl S1.out (by simp only [List.length_nil]; unfold maxLen; omega) (by simp only [List.length_nil]; omega) (by simp) ?_
      intro v2 w2 ho2 hg2 hn2
      rw [List.nil_append] at ho2
      obtain ⟨g2, c2, rfl⟩ : ∃ g2 c2, v2 = .slice (some ⟨g2, 0, none⟩) l.length c2 := by
        obtain ⟨a2, c2, e2, h21, _, hor⟩ := ho2.form
        rcases hor with ⟨rfl, rfl⟩ | ⟨g2, rfl⟩
        · exfalso
          have hz : l.length = 0 := by omega
          rw [hz] at e2
          have := hn2 e2
          injection this with e _ _
          cases e
        · exact ⟨g2, c2, e2⟩
      have hz2 : w1.heap.size ≤ w2.heap.size := by have := hg2.size; simp at this; omega
      have K2 : Hid (Kd w w2 n a cap l) := (show Hid _ from (K1.out.kept ((Below.refl _ w1).alloc (Nat.le_refl _) _)).grown (B := w1.heap.size) hz1 hg2 (fun k hk => by simp [Value.ownBlock] at hk; omega) HW.out)
      have O2 : Hid (OwnsN w2 w1.heap.size (.slice (some ⟨g2, 0, none⟩) l.length c2) l) := ho2
      clear ho2 hg2 hn2 O1 S1 y0 y1 K1
      have y0 := K2.out.sx.cell 0
      have y1 := K2.out.sx.cell 1)
    refine (hMk _).mono ?_
    rintro e w3 ⟨gm, cm, rfl, ho3, hb3⟩
    have K3 : Hid (Kd w w3 n a cap l) := K2.out.kept hb3
    have O3 : Hid (OwnsN w3 w1.heap.size (.slice (some ⟨g2, 0, none⟩) l.length c2) l) := O2.out.kept hb3
    have M3 : Hid (Sls intE w3 (.slice (some ⟨gm, 0, none⟩) MM.length cm) MM) := ho3.sls
    have CM : Hid (∀ j (hj : j < MM.length), w3.cell? ⟨gm, j, none⟩ = some (.int .i64 MM[j])) := (show ∀ _, _ from fun j hj => ownsN_at ho3 j hj)
    have hgm : gm < w3.heap.size := ho3.under gm rfl
    have hz3 : w1.heap.size ≤ w3.heap.size := by have := hb3.size; omega
    clear ho3 hb3 K2 O2 y0 y1 hMk
    go_wp2_with fail
    go_loopw [5, 7] (fun u i wr => ∃ (m g c : Nat), m ≤ MM.length ∧ i = .int .i64 m ∧ u = .slice (some ⟨g, 0, none⟩) (putAll (MM.take m) l).length c ∧ Hid (OwnsN wr w1.heap.size (.slice (some ⟨g, 0, none⟩) (putAll (MM.take m) l).length c) (putAll (MM.take m) l)) ∧ Hid (Below w3.heap.size w3 wr)) (fun _ i _ => MM.length - (intOf i).toNat)
    case atStart => exact ⟨0, _, _, Nat.zero_le _, rfl, rfl, O3, (show Hid _ from Below.refl _ _)⟩
    case round =>
      clear O3
      obtain ⟨m, g, c, hm, rfl, rfl, ho, hb⟩ := hrel
      by_cases hlt : m < MM.length
      · have hmi : (m : Int) < (MM.length : Int) := by omega
        have c0 := (hb.out.cell (p := ⟨gm, m, none⟩) hgm).trans (CM.out m hlt)
        have hzr : w1.heap.size ≤ wr.heap.size := by have := hb.out.size; omega
        have hp := specPut g c (putAll (MM.take m) l) MM[m] w1.heap.size wr ho.out (putAll_ris _ _ HRis.out) (by have := (putAll_length (MM.take m) l).2; have := List.length_take_le m MM; omega) hzr
        rw [← putAll_take MM l m hlt] at hp
        generalize MM[m] = z at c0 hp
        generalize putAll (MM.take m) l = L at ho hp
        go_wp2_with fail
        refine hp.mono ?_
        rintro e w4 ⟨g4, c4, rfl, ho4, hb4⟩
        have O4 : Hid (OwnsN w4 w1.heap.size (.slice (some ⟨g4, 0, none⟩) (putAll (MM.take (m + 1)) l).length c4) (putAll (MM.take (m + 1)) l)) := ho4
        have B4 : Hid (Below w3.heap.size w3 w4) := (show Hid _ from pastK hb.out hb4)
        clear ho4 hb4 hp ho hb c0
        go_wp2
        go_roundw
        case rel => exact ⟨m + 1, g4, c4, by omega, by go_num, rfl, O4, B4⟩
        case measure => simp [intOf]; omega
      · obtain rfl : m = MM.length := by omega
        rw [List.take_of_length_le (Nat.le_refl _)] at ho ⊢
        have K4 : Hid (Kd w wr n a cap l) := K3.out.kept hb.out
        have y0 := K4.out.sx.cell 0
        have y1 := K4.out.sx.cell 1
        have z0 := K4.out.rx.cell 0
        have z1 := K4.out.rx.cell 1
        have f0 := K4.out.rx.free 0
        have f1 := K4.out.rx.free 1
        have hgb := ho.out.from g rfl
        have HOF : Hid (OwnsN ((wr.setCell ⟨w.heap.size + 1, 0, none⟩ (.int .i64 n)).setCell ⟨w.heap.size + 1, 1, none⟩ (.slice (some ⟨g, 0, none⟩) (putAll MM l).length c)) w.heap.size (.slice (some ⟨g, 0, none⟩) (putAll MM l).length c) (putAll MM l)) := (show Hid _ from ((ho.out.other _ _ (fun k hk => by simp [Value.ownBlock] at hk; show k ≠ w.heap.size + 1; omega)).other _ _ (fun k hk => by simp [Value.ownBlock] at hk; show k ≠ w.heap.size + 1; omega)).low (by omega))
        have HBF : Hid (Below w.heap.size w ((wr.setCell ⟨w.heap.size + 1, 0, none⟩ (.int .i64 n)).setCell ⟨w.heap.size + 1, 1, none⟩ (.slice (some ⟨g, 0, none⟩) (putAll MM l).length c))) := (show Hid _ from (K4.out.low.setCell (Nat.le_succ _) _).setCell (Nat.le_succ _) _)
        generalize putAll MM l = L at HOF HBF HQ ⊢
        clear ho hb K4 K3
        go_wp2
        refine bodyPost_ret (v := .agg #[.int .i64 n, .slice (some ⟨g, 0, none⟩) L.length c]) (by simp [results, Try.results21, go_sem, z0, z1]) rfl ⟨_, by rw [HQ.out.1], by rw [HQ.out.2]; exact HOF.out, HBF.out⟩
end Go.Proofs.Ytdoolnaekmffbaa

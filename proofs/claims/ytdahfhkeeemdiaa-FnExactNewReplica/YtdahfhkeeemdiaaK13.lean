/-
  Texts in rows: the laws' helpers on them: measured, turned, compared, marked, held.
  Rows of messages, and a replica, in memory.
  The laws' marks in rows of numbers, from any start; how much such a row holds.
-/
import Derived.Lib.QuietBelow
import Derived.Test.YtdahfhkeeemdiaaK12
import Derived.Test.YtdahfhkeeemdiaaK07
import Derived.Test.YtdahfhkeeemdiaaK11
import Derived.Test.YtdahfhkeeemdiaaK09
import Derived.Test.YtdahfhkeeemdiaaK10
namespace Go.Proofs.Ytdahfhkeeemdiaa
open Go.RowKit Go.Sort
set_option linter.unusedVariables false
set_option linter.unusedSimpArgs false

abbrev OwnsX := OwnsE txtE 9
abbrev HasX := HasE txtE 9
theorem cellsX_map (l : List ByteArray) : cellsE txtE l = l.map Value.string := by
  induction l with
  | nil => rfl
  | cons x l ih => rw [cellsE_cons, ih]; rfl
theorem OwnsP.x {w : World} {B : Nat} {v : Value} {l : List ByteArray} (h : OwnsP w B v l) : OwnsX w B v l := by
  show w.ownsRow B 9 1 v l.length (cellsE txtE l)
  rw [cellsX_map]
  exact h
theorem cellsX_at (l : List ByteArray) (j : Nat) (hj : j < l.length) : (cellsE txtE l)[j]? = some (.string l[j]) := by
  have := cellsE_at txtE l j hj 0 (by decide)
  rw [show j * txtE.k + 0 = j from by show j * 1 + 0 = j; omega] at this
  exact this
theorem Sls.txt {w : World} {v : Value} {l : List ByteArray} (h : Sls txtE w v l) : ∃ a cap, v = .slice a l.length cap ∧ l.length ≤ cap ∧ cap ≤ maxLen ∧ (0 < l.length → ∃ g o, a = some ⟨g, o, Option.none⟩ ∧ g < w.heap.size ∧
    ∀ j (hj : j < l.length), w.cell? ⟨g, o + j, Option.none⟩ = some (.string l[j])) := by
  obtain ⟨a, cap, rfl, h1, h2, h3⟩ := h
  refine ⟨a, cap, rfl, h1, h2, fun h0 => ?_⟩
  obtain ⟨g, o, rfl, hg, hc⟩ := h3 h0
  exact ⟨g, o, rfl, hg, fun j hj => hc j _ (cellsX_at l j hj)⟩
theorem hasX_at {w : World} {B g n cap : Nat} {l : List ByteArray} (h : HasX w B (.slice (some ⟨g, 0, Option.none⟩) n cap) l) (j : Nat) (hj : j < l.length) : w.cell? ⟨g, j, Option.none⟩ = some (.string l[j]) := by
  have := h.at (i := 0) hj (u := .string l[j]) rfl
  rw [show j * txtE.k + 0 = j from by show j * 1 + 0 = j; omega] at this
  exact this
theorem hasX_put {w : World} {B g n cap : Nat} {l : List ByteArray} (h : HasX w B (.slice (some ⟨g, 0, Option.none⟩) n cap) l) {j : Nat} (hj : j < l.length) (x : ByteArray) : HasX (w.setCell ⟨g, j, Option.none⟩ (.string x)) B (.slice (some ⟨g, 0, Option.none⟩) n cap) (l.set j x) := by
  have := h.put hj (i := 0) (by decide) (.string x) x rfl
  rw [show j * txtE.k + 0 = j from by show j * 1 + 0 = j; omega] at this
  exact this
set_option maxHeartbeats 400000 in
theorem eqTxt (va vb : Value) (l : List ByteArray) (w : World) (ha : Sls txtE w va l) (hb : Sls txtE w vb l) (hl : l.length ≤ 1048576) :
    Calls Try.prog 38 #[va, vb] w fun e w' => e = .returned (.bool true) ∧ Grew w w' := by
  obtain ⟨a, ca, rfl, a1, a2, a3⟩ := ha.txt
  obtain ⟨b, cb, rfl, b1, b2, b3⟩ := hb.txt
  clear ha hb
  have hmx := mixed
  go_enter Try.func38, Try.ntmps38
  go_wp2
  go_loopw [5] (fun i wr => ∃ (k : Nat), k ≤ l.length ∧ i = .int .i64 k ∧ Grew w wr) (fun i _ => l.length - (intOf i).toNat)
  case atStart => exact ⟨0, Nat.zero_le _, rfl, Grew.refl _⟩
  case round =>
    obtain ⟨k, hk, rfl, hg⟩ := hrel
    by_cases hlt : k < l.length
    · obtain ⟨ga, oa, rfl, hga, hca⟩ := a3 (by omega)
      obtain ⟨gb, ob, rfl, hgb, hcb⟩ := b3 (by omega)
      have c1 := hg.cell (hca k hlt) hga
      have c3 := hg.cell (hcb k hlt) hgb
      generalize l[k] = f at c1 c3
      clear a3 b3 hca hcb
      go_wp2
      go_quiet (fail)
      have hg2 : Grew w (wr.drewN nq) := hg.drewN _
      generalize wr.drewN nq = w1 at hg2 ⊢
      go_wp2
      go_roundw
      case rel => exact ⟨k + 1, by omega, by go_num, hg2⟩
      case measure => simp [intOf]; omega
    · go_wp2
      go_ret
      exact ⟨rfl, hg⟩
def markedX (s : Nat) (l : List ByteArray) (k : Nat) : List ByteArray := (List.range k).map (fun j => mkT (s + j)) ++ l.drop k
def marksX (s n : Nat) : List ByteArray := (List.range n).map (fun j => mkT (s + j))
theorem markedX_length (s : Nat) (l : List ByteArray) (k : Nat) (h : k ≤ l.length) : (markedX s l k).length = l.length := by unfold markedX; simp; omega
theorem markedX_zero (s : Nat) (l : List ByteArray) : markedX s l 0 = l := by simp [markedX]
theorem markedX_all (s : Nat) (l : List ByteArray) : markedX s l l.length = marksX s l.length := by simp [markedX, marksX]
theorem markedX_next (s : Nat) (l : List ByteArray) (k : Nat) (h : k < l.length) : (markedX s l k).set k (mkT (s + k)) = markedX s l (k + 1) := by
  unfold markedX
  have e : ((List.range k).map (fun j => mkT (s + j))).length = k := by simp
  rw [List.set_append_right _ _ (by omega), e, Nat.sub_self, List.range_succ, List.map_append, List.append_assoc]
  congr 1
  rw [List.drop_eq_getElem_cons h, List.set_cons_zero]
  rfl
theorem marksX_length (s n : Nat) : (marksX s n).length = n := by simp [marksX]
theorem marksX_at (s n j : Nat) (h : j < (marksX s n).length) : (marksX s n)[j] = mkT (s + j) := by simp [marksX]
set_option maxHeartbeats 1000000 in
theorem markTxt (s : Nat) (hs1 : 1 ≤ s) (hs2 : s ≤ 50000000) (v : Value) (l : List ByteArray) (B : Nat) (w : World) (h : HasX w B v l) (hl : l.length ≤ 1048576) :
    Calls Try.prog 41 #[v, .int .i64 (s : Int)] w fun e w' => e = .returned (.int .i64 ((s : Int) + (l.length : Int))) ∧ HasX w' B v (marksX s l.length) ∧ w.grownBy w' v.ownBlock := by
  have hh := h
  obtain ⟨a, cap, rfl, h1, h2, h3⟩ := hh.form
  unfold maxLen at h2
  go_enter Try.func41, Try.ntmps41
  go_wp2
  go_loopw [1, 5] (fun m i wr => ∃ k : Nat, k ≤ l.length ∧ i = .int .i64 k ∧ m = .int .i64 ((s : Int) + (k : Int)) ∧ HasX wr B (.slice a l.length cap) (markedX s l k) ∧ w.grownBy wr (Value.slice a l.length cap).ownBlock) (fun _ i _ => l.length - (intOf i).toNat)
  case atStart => exact ⟨0, Nat.zero_le _, rfl, by simp, by rw [markedX_zero]; exact h, grownE_self _ _⟩
  case round =>
    clear h hh
    obtain ⟨k, hk, rfl, rfl, ho, hgr⟩ := hrel
    by_cases hlt : k < l.length
    · obtain ⟨g, rfl⟩ := h3 (by omega)
      have hml := markedX_length s l k hk
      have hnx := markedX_next s l k hlt
      generalize hl2 : markedX s l (k + 1) = l2 at hnx
      generalize markedX s l k = l1 at ho hml hnx
      have m1 := fun wx => markText (s + k) (by omega) (by omega) wx
      simp only [Int.natCast_add] at m1
      have hki : (k : Int) < (l.length : Int) := by omega
      clear h3
      go_wp2_with fail
      refine (m1 _).mono ?_
      rintro e w1 ⟨rfl, hb1⟩
      have ho1 := ho.kept hb1
      have d1 := hasX_at ho1 k (by omega)
      have f1 := ho1.free k
      have hg1 := grownE_below hgr hb1
      have ho2 := hasX_put ho1 (j := k) (by omega) (mkT (s + k))
      have hg2 := grownE_put hg1 k (.string (mkT (s + k)))
      rw [hnx] at ho2
      have HO : Hid (HasX (w1.setCell ⟨g, k, none⟩ (.string (mkT (s + k)))) B (.slice (some ⟨g, 0, none⟩) l.length cap) l2) := ho2
      have HG : Hid _ := hg2
      clear ho hgr hb1 ho1 hg1 ho2 hg2
      go_wp2
      go_roundw
      case rel => exact ⟨k + 1, by omega, by go_num, by go_num, by rw [hl2]; exact HO.out, HG.out⟩
      case measure => simp [intOf]; omega
    · obtain rfl : k = l.length := by omega
      rw [markedX_all] at ho
      go_wp2
      go_ret
      exact ⟨rfl, ho, hgr⟩
set_option maxHeartbeats 1000000 in
theorem heldTxt (s : Nat) (hs1 : 1 ≤ s) (hs2 : s ≤ 50000000) (v : Value) (n : Nat) (w : World) (h : Sls txtE w v (marksX s n)) (hl : n ≤ 1048576) :
    Calls Try.prog 43 #[v, .int .i64 (s : Int)] w fun e w' => e = .returned (.int .i64 ((s : Int) + (n : Int))) ∧ Below w.heap.size w w' := by
  have hml := marksX_length s n
  obtain ⟨a, cap, rfl, h1, h2, h3⟩ := h.txt
  unfold maxLen at h2
  rw [hml] at h1 ⊢
  have hat : Hid (∀ (j : Nat) (hj : j < n) W, Below w.heap.size w W → ∃ g o, a = some ⟨g, o, Option.none⟩ ∧ W.cell? ⟨g, o + j, Option.none⟩ = some (.string (mkT (s + j)))) := (show ∀ _, _ from fun j hj W hW => by
    obtain ⟨g, o, ha, hg, hc⟩ := h3 (by omega)
    have c1 := hc j (by omega)
    rw [marksX_at] at c1
    exact ⟨g, o, ha, (hW.cell (p := ⟨g, o + j, none⟩) hg).trans c1⟩)
  clear h h3 hml
  go_enter Try.func43, Try.ntmps43
  go_wp2
  go_loopw [1, 5] (fun m i wr => ∃ k : Nat, k ≤ n ∧ i = .int .i64 k ∧ m = .int .i64 ((s : Int) + (k : Int)) ∧ Hid (Below w.heap.size w wr)) (fun _ i _ => n - (intOf i).toNat)
  case atStart => exact ⟨0, Nat.zero_le _, rfl, by simp, (show Hid _ from Below.refl _ _)⟩
  case round =>
    obtain ⟨k, hk, rfl, rfl, hb⟩ := hrel
    by_cases hlt : k < n
    · obtain ⟨g, o, rfl, c1⟩ := hat.out k hlt wr hb.out
      have m1 := fun wx => markText (s + k) (by omega) (by omega) wx
      simp only [Int.natCast_add] at m1
      have hki : (k : Int) < (n : Int) := by omega
      have j1 : ∀ d os, Calls Try.prog 58 #[.int .i64 ((s : Int) + (k : Int))] (grow (redrawn wr d) os) fun e w'' => e = .returned (.string (mkT (s + k))) ∧ ∃ p : Regrown, w'' = grow (redrawn wr p.d) p.os := fun d os => Calls.regrown_of (m1 _)
      have k1 := cell_regrown c1
      generalize mkT (s + k) = T at j1 k1
      have eT : (T.toList == T.toList) = true := by simp
      clear c1 m1
      go_wp2_with fail
      refine wp_region_quiet_below (by kernel_rfl) (by kernel_rfl) ?_
      repeat (go_big_quiet_step (with_reducible exact j1 _ _))
      refine wpQuiet_nil ?_
      intro _ hw'
      obtain ⟨⟨dq, osq⟩, hw''⟩ := hw'
      subst hw''
      have hbn : Below wr.heap.size wr (grow (redrawn wr dq) osq) := below_regrown wr dq osq
      have BN : Hid (Below w.heap.size w (grow (redrawn wr dq) osq)) := (show Hid _ from hb.out.trans (hbn.mono hb.out.size))
      generalize grow (redrawn wr dq) osq = wn at BN hbn ⊢
      clear k1 j1 hbn
      go_wp2
      go_roundw
      case rel => exact ⟨k + 1, by omega, by go_num, by go_num, BN⟩
      case measure => simp [intOf]; omega
    · obtain rfl : k = n := by omega
      go_wp2
      go_ret
      exact ⟨rfl, hb.out⟩
end Go.Proofs.Ytdahfhkeeemdiaa
namespace Go.Proofs.Ytdahfhkeeemdiaa.Rl
open Go.RowKit Go.Sort
set_option linter.unusedVariables false
set_option linter.unusedSimpArgs false

/-- A message and where its log lies. -/
structure Mx where
  m : Ms
  pl : Option Addr
  cl : Nat
def Mx.u (x : Mx) : Value := .slice x.pl x.m.l.length x.cl
def mxC (x : Mx) : List Value := [.int .i64 x.m.k, .int .i64 x.m.f, .int .i64 x.m.t, .int .i64 x.m.v, .int .i64 x.m.la, x.u, .int .i64 x.m.c]
def mxE : Enc Mx where
  k := 7
  pos := by decide
  c := mxC
  len := fun _ => rfl
  one := fun x u hu => by
    simp only [mxC, Mx.u, List.mem_cons, List.not_mem_nil, or_false] at hu
    rcases hu with rfl | rfl | rfl | rfl | rfl | rfl | rfl <;> rfl
/-- The cells of the j-th message of a row. -/
theorem mxCells {w : World} {g q n cap : Nat} {L : List Mx} (h : Sls mxE w (.slice (some ⟨g, q, none⟩) n cap) L) {j : Nat} (hj : j < L.length) :
    (w.cell? ⟨g, q + j * 7, none⟩ = some (.int .i64 L[j].m.k) ∧ w.cell? ⟨g, q + j * 7 + 1, none⟩ = some (.int .i64 L[j].m.f) ∧ w.cell? ⟨g, q + j * 7 + 2, none⟩ = some (.int .i64 L[j].m.t) ∧ w.cell? ⟨g, q + j * 7 + 3, none⟩ = some (.int .i64 L[j].m.v) ∧ w.cell? ⟨g, q + j * 7 + 4, none⟩ = some (.int .i64 L[j].m.la) ∧ w.cell? ⟨g, q + j * 7 + 5, none⟩ = some L[j].u ∧ w.cell? ⟨g, q + j * 7 + 6, none⟩ = some (.int .i64 L[j].m.c)) := by
  obtain ⟨a, cap', hv, h1, h2, h3⟩ := h
  obtain ⟨g', q', ha, hg, hc⟩ := h3 (by omega)
  cases hv
  cases ha
  have k : ∀ i (hi : i < 7) u, (mxC L[j])[i]? = some u → w.cell? ⟨g, q + j * 7 + i, none⟩ = some u := fun i hi u hu => by
    have := hc (j * 7 + i) u ((cellsE_at mxE L j hj i hi).trans hu)
    rw [← Nat.add_assoc] at this
    exact this
  exact ⟨k 0 (by decide) _ rfl, k 1 (by decide) _ rfl, k 2 (by decide) _ rfl, k 3 (by decide) _ rfl, k 4 (by decide) _ rfl, k 5 (by decide) _ rfl, k 6 (by decide) _ rfl⟩
theorem mxAt {w : World} {a : Option Addr} {n cap : Nat} {L : List Mx} (h : Sls mxE w (.slice a n cap) L) (hl : 0 < L.length) : ∃ g q, a = some ⟨g, q, none⟩ := by
  obtain ⟨a', cap', hv, _, _, h3⟩ := h
  obtain ⟨g, q, ha, _⟩ := h3 hl
  cases hv
  exact ⟨g, q, ha⟩
/-- A message as a value, its log at u. -/
def msA (m : Ms) (u : Value) : Value := .agg #[.int .i64 m.k, .int .i64 m.f, .int .i64 m.t, .int .i64 m.v, .int .i64 m.la, u, .int .i64 m.c]
def MsGot (w : World) (u : Value) (m : Ms) : Prop := Sls txtE w u m.l
theorem MsGot.kept {w w' : World} {u : Value} {m : Ms} (h : MsGot w u m) (hb : Below w.heap.size w w') : MsGot w' u m := Sls.kept h hb
theorem MsGot.alloc {w : World} {u : Value} {m : Ms} (h : MsGot w u m) (o : Obj) : MsGot (w.alloc o) u m := h.kept ((Below.refl _ w).alloc (Nat.le_refl _) o)
/-- A row of messages at v. -/
def TeGot (w : World) (v : Value) (T : List Mx) : Prop := Sls mxE w v T ∧ ∀ x ∈ T, MsGot w x.u x.m
theorem TeGot.kept {w w' : World} {v : Value} {T : List Mx} (h : TeGot w v T) (hb : Below w.heap.size w w') : TeGot w' v T := ⟨h.1.kept hb, fun x hx => (h.2 x hx).kept hb⟩
theorem TeGot.alloc {w : World} {v : Value} {T : List Mx} (h : TeGot w v T) (o : Obj) : TeGot (w.alloc o) v T := h.kept ((Below.refl _ w).alloc (Nat.le_refl _) o)
/-- Where the four slices of a replica lie. -/
structure Rv where
  l : Value
  ok : Value
  ch : Value
  te : Value
  T : List Mx
def rpA (r : Rp) (u : Rv) : Value := .agg #[.int .i64 r.id, .int .i64 r.p, .int .i64 r.v, .bool r.n, .int .i64 r.la, u.l, .int .i64 r.c, u.ok, u.ch, u.te]
structure RpGot (w : World) (u : Rv) (r : Rp) : Prop where
  l : Sls txtE w u.l r.l
  ok : Sls intE w u.ok r.ok
  ch : Sls intE w u.ch r.ch
  t : u.T.map (·.m) = r.te
  te : TeGot w u.te u.T
theorem RpGot.kept {w w' : World} {u : Rv} {r : Rp} (h : RpGot w u r) (hb : Below w.heap.size w w') : RpGot w' u r := ⟨h.l.kept hb, h.ok.kept hb, h.ch.kept hb, h.t, h.te.kept hb⟩
theorem RpGot.alloc {w : World} {u : Rv} {r : Rp} (h : RpGot w u r) (o : Obj) : RpGot (w.alloc o) u r := h.kept ((Below.refl _ w).alloc (Nat.le_refl _) o)
theorem RpGot.tlen {w : World} {u : Rv} {r : Rp} (h : RpGot w u r) : u.T.length = r.te.length := by rw [← h.t, List.length_map]
/-- Three values that are no replica's slices. -/
def rv0 : Rv := ⟨.slice none 0 0, .slice none 0 0, .slice none 0 0, .slice none 0 0, []⟩
theorem RpGot.none (w : World) : RpGot w rv0 noRp where
  l := Sls.nil (Nat.zero_le _)
  ok := Sls.nil (Nat.zero_le _)
  ch := Sls.nil (Nat.zero_le _)
  t := rfl
  te := ⟨Sls.nil (Nat.zero_le _), fun x hx => by cases hx⟩
end Go.Proofs.Ytdahfhkeeemdiaa.Rl
namespace Go.Proofs.Ytdahfhkeeemdiaa
open Go.RowKit Go.Sort
set_option linter.unusedVariables false
set_option linter.unusedSimpArgs false

def mkU (s j : Nat) : Int := (s : Int) + (j : Int)
def markedU (s : Nat) (l : List Int) (k : Nat) : List Int := (List.range k).map (mkU s) ++ l.drop k
def marksU (s n : Nat) : List Int := (List.range n).map (mkU s)
theorem markedU_length (s : Nat) (l : List Int) (k : Nat) (h : k ≤ l.length) : (markedU s l k).length = l.length := by unfold markedU; simp; omega
theorem markedU_zero (s : Nat) (l : List Int) : markedU s l 0 = l := by simp [markedU]
theorem markedU_all (s : Nat) (l : List Int) : markedU s l l.length = marksU s l.length := by simp [markedU, marksU]
theorem markedU_next (s : Nat) (l : List Int) (k : Nat) (h : k < l.length) : (markedU s l k).set k (mkU s k) = markedU s l (k + 1) := by
  unfold markedU
  have e : ((List.range k).map (mkU s)).length = k := by simp
  rw [List.set_append_right _ _ (by omega), e, Nat.sub_self, List.range_succ, List.map_append, List.append_assoc]
  congr 1
  rw [List.drop_eq_getElem_cons h, List.set_cons_zero]
  rfl
theorem marksU_length (s n : Nat) : (marksU s n).length = n := by simp [marksU]
theorem marksU_at (s n j : Nat) (h : j < (marksU s n).length) : (marksU s n)[j] = mkU s j := by simp [marksU]
set_option maxHeartbeats 1000000 in
theorem markNu (s : Nat) (hs2 : s ≤ 50000000) (v : Value) (l : List Int) (B : Nat) (w : World) (h : HasN w B v l) (hl : l.length ≤ 1048576) :
    Calls Try.prog 42 #[v, .int .i64 (s : Int)] w fun e w' => e = .returned (.int .i64 ((s : Int) + (l.length : Int))) ∧ HasN w' B v (marksU s l.length) ∧ w.grownBy w' v.ownBlock := by
  have hh := h
  obtain ⟨a, cap, rfl, h1, h2, h3⟩ := hh.form
  unfold maxLen at h2
  go_enter Try.func42, Try.ntmps42
  go_wp2
  go_loopw [1, 5] (fun m i wr => ∃ k : Nat, k ≤ l.length ∧ i = .int .i64 k ∧ m = .int .i64 ((s : Int) + (k : Int)) ∧ HasN wr B (.slice a l.length cap) (markedU s l k) ∧ w.grownBy wr (Value.slice a l.length cap).ownBlock) (fun _ i _ => l.length - (intOf i).toNat)
  case atStart => exact ⟨0, Nat.zero_le _, rfl, by simp, by rw [markedU_zero]; exact h, grownE_self _ _⟩
  case round =>
    clear h hh
    obtain ⟨k, hk, rfl, rfl, ho, hgr⟩ := hrel
    by_cases hlt : k < l.length
    · obtain ⟨g, rfl⟩ := h3 (by omega)
      have hml := markedU_length s l k hk
      have hnx := markedU_next s l k hlt
      generalize hl2 : markedU s l (k + 1) = l2 at hnx
      generalize markedU s l k = l1 at ho hml hnx
      have d1 := hasN_at ho k (by omega)
      have f1 := ho.free k
      have ho2 := hasN_put ho (j := k) (by omega) (mkU s k)
      have hg2 := grownE_put hgr k (.int .i64 (mkU s k))
      rw [hnx] at ho2
      unfold mkU at ho2 hg2
      have HO : Hid _ := ho2
      have HG : Hid _ := hg2
      clear ho hgr h3 ho2 hg2
      go_wp2
      go_roundw
      case rel => exact ⟨k + 1, by omega, by go_num, by go_num, by rw [hl2]; exact HO.out, HG.out⟩
      case measure => simp [intOf]; omega
    · obtain rfl : k = l.length := by omega
      rw [markedU_all] at ho
      go_wp2
      go_ret
      exact ⟨rfl, ho, hgr⟩
set_option maxHeartbeats 1000000 in
theorem heldNu (s : Nat) (hs2 : s ≤ 50000000) (v : Value) (n : Nat) (w : World) (h : Sls intE w v (marksU s n)) (hl : n ≤ 1048576) :
    Calls Try.prog 44 #[v, .int .i64 (s : Int)] w fun e w' => e = .returned (.int .i64 ((s : Int) + (n : Int))) ∧ w = w' := by
  have hml := marksU_length s n
  obtain ⟨a, cap, rfl, h1, h2, h3⟩ := h.one
  unfold maxLen at h2
  rw [hml] at h1 ⊢
  have hat : ∀ (j : Nat) (hj : j < n), ∃ g o, a = some ⟨g, o, Option.none⟩ ∧ w.cell? ⟨g, o + j, Option.none⟩ = some (.int .i64 ((s : Int) + (j : Int))) := fun j hj => by
    obtain ⟨g, o, ha, _, hc⟩ := h3 (by omega)
    have := hc j (by omega)
    rw [marksU_at] at this
    exact ⟨g, o, ha, this⟩
  clear h h3 hml
  go_enter Try.func44, Try.ntmps44
  go_wp2
  go_loop [1, 5] (fun m i => ∃ k : Nat, k ≤ n ∧ i = .int .i64 k ∧ m = .int .i64 ((s : Int) + (k : Int))) (fun _ i => n - (intOf i).toNat)
  case atStart => exact ⟨0, Nat.zero_le _, rfl, by simp⟩
  case round =>
    obtain ⟨k, hk, rfl, rfl⟩ := hrel
    by_cases hlt : k < n
    · obtain ⟨g, o, rfl, c1⟩ := hat k hlt
      clear hat
      go_wp2
      go_round
      case rel => exact ⟨k + 1, by omega, by go_num, by go_num⟩
      case measure => simp [intOf]; omega
    · obtain rfl : k = n := by omega
      go_wp2
      go_ret
      exact ⟨rfl, rfl⟩
end Go.Proofs.Ytdahfhkeeemdiaa

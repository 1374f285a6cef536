/-
  The program's guess of an object, by its contract.
  The library's FormatInt of a number of at most fifteen digits, by its contract.
  The program's row of numbers, by its contract.
  The program's methodOk, targetOk, statusOk, isBodiless, Framing, isUnframed, RequestOk and ResponseOk by their contracts.
-/
import Derived.Test.YtemmgfnepdgpbaaGreatDoorK18
import Derived.Test.YtemmgfnepdgpbaaGreatDoorK22
import Derived.Test.YtemmgfnepdgpbaaGreatDoorK23
import Derived.Test.YtemmgfnepdgpbaaGreatDoorK26
import Derived.Test.YtemmgfnepdgpbaaGreatDoorK10
import Derived.Test.YtemmgfnepdgpbaaGreatDoorShelfG
import Derived.Lib.SmallJoins
import Derived.Lib.QuietBelow
import Derived.BigQuiet
import Derived.Test.YtemmgfnepdgpbaaGreatDoorK12
import Derived.Test.YtemmgfnepdgpbaaGreatDoorShelfA
import Derived.Laws.OwnMore
import Derived.Test.YtemmgfnepdgpbaaGreatDoorK19
import Derived.Test.YtemmgfnepdgpbaaGreatDoorK16
import Derived.Test.YtemmgfnepdgpbaaGreatDoorProg
namespace Go.Proofs.YtemmgfnepdgpbaaGreatDoor
open Go.RowKit Go.Sort St
set_option linter.unusedVariables false
set_option linter.unusedSimpArgs false

theorem row_at {t : ByteArray} {k : Nat} {D X R : List UInt8} (hd : t.data.toList.drop k = D) (hk : k ≤ t.size) (he : rowX D = (X, R)) : t.data.toList.drop (t.size - R.length) = R ∧ R.length ≤ t.size ∧ X.length ≤ t.size := by
  have h := rowX_tail D
  have h2 := rowX_len D
  have hl : D.length = t.size - k := by rw [← hd, List.length_drop]; simp
  rw [he] at h h2
  simp only at h h2
  refine ⟨?_, by omega, by omega⟩
  conv => rhs; rw [← h, ← hd, List.drop_drop]
  congr 1
  rw [hd, hl]
  omega
theorem implRowD (b : Nat) (t : ByteArray) (k : Nat) (m : Int) (D X R : List UInt8) (hd : t.data.toList.drop k = D) (he : rowX D = (X, R)) (hk : k ≤ t.size) (ht : t.size ≤ 1048576) (w : World) (h : Sdr w b t k) (hm : w.cell? ⟨3, 0, none⟩ = some (.int .i64 m)) :
    Calls Tryz.prog 69 #[.pointer (some ⟨b, 0, none⟩)] w fun e w' => e = .returned (.string (txtL X)) ∧ Sdr w' b t (t.size - R.length) ∧ w.grownBy w' (some b) := by
  have := implRowS b t k m w h hk ht hm
  rw [hd, he] at this
  exact this
theorem implNumsD (c : Nat) (h1 : 1 ≤ c) (h4 : c ≤ 4) (b : Nat) (t : ByteArray) (k : Nat) (m : Int) (D X R : List UInt8) (hd : t.data.toList.drop k = D) (he : rowX D = (X, R)) (hk : k ≤ t.size) (ht : t.size ≤ 1048576) (hmb : 3 ≠ b) (w : World) (h : Sdr w b t k) (hm : w.cell? ⟨3, 0, none⟩ = some (.int .i64 m)) :
    Calls Tryz.prog 70 #[.pointer (some ⟨b, 0, none⟩), .int .i64 c] w fun e w' => e = .returned (.slice (some ⟨w.heap.size, 0, none⟩) c c) ∧ OwnsNu w' w.heap.size (.slice (some ⟨w.heap.size, 0, none⟩) c c) (numsX c (txtL X)) ∧ Sdr w' b t (t.size - R.length) ∧ w.grownBy w' (some b) := by
  have := implNumsS c h1 h4 b t k m w h hk ht hm hmb
  rw [hd, he] at this
  exact this
theorem implPcD (b : Nat) (t : ByteArray) (k n : Nat) (D : List UInt8) (hd : t.data.toList.drop k = D) (hk : k ≤ t.size) (ht : t.size ≤ 1048576) (w : World) (h : Sdr w b t k) :
    Calls Tryz.prog 72 #[.pointer (some ⟨b, 0, none⟩), .int .i64 n] w fun e w' => ∃ Y : List UInt8, e = .returned (.string (txtL Y)) ∧ (n ≤ D.length → Y = D.take n) ∧ Y.length ≤ t.size ∧ w.grownBy w' (some b) := by
  have hl : D.length = t.size - k := by rw [← hd, List.length_drop]; simp
  by_cases hn : n ≤ t.size - k
  · refine (implPcS_yes b t k n w h hk ht hn).mono ?_
    rintro e w' ⟨rfl, _, hg⟩
    rw [hd]
    exact ⟨D.take n, rfl, fun _ => rfl, by rw [List.length_take]; omega, hg⟩
  · refine (implPcS_no b t k n w h hk ht hn).mono ?_
    rintro e w' ⟨rfl, hb⟩
    exact ⟨[], rfl, fun h => by omega, by simp, grown_belowS (grown_selfS w _) hb⟩
theorem grown_putL {w w' : World} {g : Nat} (h : w.grownBy w' (some g)) : ∀ (vs : List Value) (i : Nat), w.grownBy (putL w' g vs i) (some g) := by
  intro vs
  induction vs generalizing w' with
  | nil => intro i; exact h
  | cons x vs ih => intro i; exact ih (grown_putS h i x) (i + 1)
theorem nums3 {ns : List Int} (h : ns.length = 3) : ∃ a b c, ns = [a, b, c] := by
  match ns, h with
  | [a, b, c], _ => exact ⟨a, b, c, rfl⟩
theorem nums4 {ns : List Int} (h : ns.length = 4) : ∃ a b c d, ns = [a, b, c, d] := by
  match ns, h with
  | [a, b, c, d], _ => exact ⟨a, b, c, d, rfl⟩
theorem OwnsNu.by {w w' : World} {B b : Nat} {v : Value} {l : List Int} (h : OwnsNu w B v l) (hg : w.grownBy w' (some b)) (hb : b < B) : OwnsNu w' B v l := h.grown hg (fun k hk e => by have := h.from k hk; injection e with e; omega)
theorem HasF.by {w w' : World} {B b : Nat} {v : Value} {l : List Fl} (h : HasF w B v l) (hg : w.grownBy w' (some b)) (hb : b < B) : HasF w' B v l := h.grown hg (fun k hk e => by have := h.from k hk; injection e with e; omega)
theorem ObB.by {w w' : World} {b c : Nat} {o : Ob} {v u : Value} (h : ObB w c o v u) (hg : w.grownBy w' (some b)) (hb : b ≠ c) : ObB w' c o v u := h.same (hg.block c h.hi (fun e => by injection e with e; omega)) hg.size
/-- What the guess is: the object that was written, where one was. -/
structure ObG (w w' : World) (b : Nat) (t : ByteArray) (o : Ob) (p u : Value) : Prop where
  is : ∀ o2, obB o2 = true → shoL o2 <+: t.data.toList → o = o2
  hp : HasF w' w.heap.size p o.l
  hu : HasF w' w.heap.size u o.r.l
  ne : ∀ g, p.ownBlock = some g → u.ownBlock ≠ some g
  z1 : szL o.l ≤ t.size
  z2 : szL o.r.l ≤ t.size
  n1 : o.l.length ≤ t.size
  n2 : o.r.l.length ≤ t.size
  kz : o.k.size ≤ t.size
  bz : o.r.b.size ≤ t.size
  gr : w.grownBy w' (some b)
theorem ObG.kept {w w' w'' : World} {b : Nat} {t : ByteArray} {o : Ob} {p u : Value} (h : ObG w w' b t o p u) (hb : Below w'.heap.size w' w'') : ObG w w'' b t o p u :=
  ⟨h.is, h.hp.kept hb, h.hu.kept hb, h.ne, h.z1, h.z2, h.n1, h.n2, h.kz, h.bz, grown_belowS h.gr hb⟩
theorem below_drewS (w : World) : Below w.heap.size w w.drew := ⟨rfl, rfl, rfl, Nat.le_refl _, fun _ _ => rfl⟩
theorem then_gen {K : Act → World → Prop} {Q : Exit → Act → World → Prop} {x : Exit} {a : Act} {w : World} (h : ∀ W, W = w → Exit.then K Q x a W) : Exit.then K Q x a w := h _ rfl
set_option maxRecDepth 100000 in
set_option maxHeartbeats 8000000 in
theorem implObjS (b : Nat) (t : ByteArray) (m : Int) (w : World) (h : Sdr w b t 0) (ht : t.size ≤ 1048576) (hm : w.cell? ⟨3, 0, none⟩ = some (.int .i64 m)) (hmb : 3 ≠ b) :
    Calls Tryz.prog 35 #[.pointer (some ⟨b, 0, none⟩)] w fun e w' => ∃ o p u, e = .returned (obV o p u) ∧ ObG w w' b t o p u := by
  have hbw : b < w.heap.size := h.hi
  obtain ⟨⟨K, D1⟩, e1⟩ : ∃ p, rowX t.data.toList = p := ⟨_, rfl⟩
  obtain ⟨⟨X2, D2⟩, e2⟩ : ∃ p, rowX D1 = p := ⟨_, rfl⟩
  obtain ⟨⟨X3, D3⟩, e3⟩ : ∃ p, rowX D2 = p := ⟨_, rfl⟩
  have d0 : t.data.toList.drop 0 = t.data.toList := rfl
  obtain ⟨d1, l1, lK⟩ := row_at d0 (Nat.zero_le _) e1
  obtain ⟨d2, l2, _⟩ := row_at d1 (Nat.sub_le _ _) e2
  obtain ⟨d3, l3, _⟩ := row_at d2 (Nat.sub_le _ _) e3
  have c1 := implRowD b t 0 m _ K D1 d0 e1 (Nat.zero_le _) ht
  have c2 := implNumsD 3 (by decide) (by decide) b t _ m _ X2 D2 d1 e2 (Nat.sub_le _ _) ht hmb
  have c3 := implNumsD 4 (by decide) (by decide) b t _ m _ X3 D3 d2 e3 (Nat.sub_le _ _) ht hmb
  obtain ⟨a0, a1, a2, hA⟩ := nums3 (numsX_len 3 (txtL X2) (by decide))
  obtain ⟨b0, b1, b2, b3, hB⟩ := nums4 (numsX_len 4 (txtL X3) (by decide))
  have fB := numsX_few 4 (txtL X3)
  rw [hB] at fB
  have f0 : few b0 := fB b0 (by simp)
  have f2 : few b2 := fB b2 (by simp)
  have f3 : few b3 := fB b3 (by simp)
  obtain ⟨n0, rfl⟩ := Int.eq_ofNat_of_zero_le f0.1
  obtain ⟨n2, rfl⟩ := Int.eq_ofNat_of_zero_le f2.1
  obtain ⟨n3, rfl⟩ := Int.eq_ofNat_of_zero_le f3.1
  have g0 : n0 < 1000000000000000 := by have := f0.2; omega
  have g2 : n2 < 1000000000000000 := by have := f2.2; omega
  have HIS : Hid (∀ l D4 mm D5 Y, FldG n0 D3 l D4 → FldG n2 D4 mm D5 → (n3 ≤ D5.length → Y = D5.take n3) → ∀ o, obB o = true → shoL o <+: t.data.toList → mkO K [a0, a1, a2] [(n0 : Int), b1, (n2 : Int), (n3 : Int)] l mm Y = o) := (show ∀ _, _ from fun l D4 mm D5 Y hl hm hy => by
    exact guess_is (d4 := D4) (d5 := D5) e1 e2 e3 hA.symm hB.symm hl hm hy)
  rw [hA] at c2
  rw [hB] at c3
  generalize t.size - D1.length = k1 at c1 c2 d1
  generalize t.size - D2.length = k2 at c2 c3 d2
  have hk3 : t.size - D3.length ≤ t.size := Nat.sub_le _ _
  generalize t.size - D3.length = k3 at c3 d3 hk3
  have hKs : (txtL K).size ≤ t.size := by rw [txt_len]; exact lK
  have ZX0 : Hid (ObB (w.alloc (.cells #[.string ⟨#[]⟩, .slice none 0 0, .int .i64 0, .slice none 0 0, .string ⟨#[]⟩, .int .i64 0, .int .i64 0, .int .i64 0] 28)) w.heap.size noO (.slice none 0 0) (.slice none 0 0)) := (show ObB _ _ _ _ _ from ObB.new w noO (.slice none 0 0) (.slice none 0 0) 28)
  have bA := (Below.refl w.heap.size w).alloc (Nat.le_refl _) (.cells #[.string ⟨#[]⟩, .slice none 0 0, .int .i64 0, .slice none 0 0, .string ⟨#[]⟩, .int .i64 0, .int .i64 0, .int .i64 0] 28)
  have SA := h.kept bA
  have mA := (bA.cell (p := ⟨3, 0, none⟩) (cell_lt hm)).trans hm
  have GA : Hid (w.grownBy (w.alloc (.cells #[.string ⟨#[]⟩, .slice none 0 0, .int .i64 0, .slice none 0 0, .string ⟨#[]⟩, .int .i64 0, .int .i64 0, .int .i64 0] 28)) (some b)) := grown_belowS (grown_selfS w _) bA
  have hne : ∀ {k : Nat}, some (3 : Nat) ≠ some b := fun e => hmb (by injection e)
  clear h bA e1 e2 e3 hA hB fB f0 f2 f3 d0 l1 l2 l3 d1 d2 lK
  go_enter Tryz.func35, Tryz.ntmps35
  generalize hwA : w.alloc (.cells #[.string ⟨#[]⟩, .slice none 0 0, .int .i64 0, .slice none 0 0, .string ⟨#[]⟩, .int .i64 0, .int .i64 0, .int .i64 0] 28) = wA at ZX0 SA mA GA
  go_wp2_with fail
  refine (c1 _ SA mA).mono ?_
  rintro e w1 ⟨rfl, S1, q1⟩
  have Z1 : Hid (ObB w1 w.heap.size noO (.slice none 0 0) (.slice none 0 0)) := ZX0.out.by q1 (by omega)
  have m1 := q1.cell mA (@hne 0)
  have G1 : Hid (w.grownBy w1 (some b)) := GA.out.trans q1
  clear ZX0 SA mA GA q1 c1 hwA
  go_wp2_with fail
  refine (c2 _ S1 m1).mono ?_
  rintro e w2 ⟨rfl, o2, S2, q2⟩
  have Z2 : Hid (ObB w2 w.heap.size noO (.slice none 0 0) (.slice none 0 0)) := Z1.out.by q2 (by omega)
  have m2 := q2.cell m1 (@hne 0)
  have G2 : Hid (w.grownBy w2 (some b)) := G1.out.trans q2
  have hw1 : w.heap.size ≤ w1.heap.size := G1.out.size
  have O2 : Hid (OwnsNu w2 w1.heap.size (.slice (some ⟨w1.heap.size, 0, none⟩) 3 3) [a0, a1, a2]) := o2
  clear Z1 S1 m1 G1 q2 c2 o2
  generalize w1.heap.size = g1 at hw1 O2
  go_wp2_with fail
  refine (c3 _ S2 m2).mono ?_
  rintro e w3 ⟨rfl, o3, S3, q3⟩
  have Z3 : Hid (ObB w3 w.heap.size noO (.slice none 0 0) (.slice none 0 0)) := Z2.out.by q3 (by omega)
  have m3 := q3.cell m2 (@hne 0)
  have G3 : Hid (w.grownBy w3 (some b)) := G2.out.trans q3
  have O3 : Hid (OwnsNu w3 g1 (.slice (some ⟨g1, 0, none⟩) 3 3) [a0, a1, a2]) := O2.out.by q3 (by omega)
  have hw2 : w.heap.size ≤ w2.heap.size := G2.out.size
  have C3 : Hid (OwnsNu w3 w2.heap.size (.slice (some ⟨w2.heap.size, 0, none⟩) 4 4) [(n0 : Int), b1, (n2 : Int), (n3 : Int)]) := o3
  clear Z2 S2 m2 G2 q3 c3 o3 O2
  generalize w2.heap.size = g2' at hw2 C3
  have x0 := ownsNu_at C3.out 0 (by simp)
  simp only [List.getElem_cons_zero] at x0
  go_wp2_with fail
  refine (implFldsS b t k3 n0 m w3 S3 hk3 ht g0 m3 hmb).mono ?_
  rintro e w4 ⟨p, l, k4, rfl, F4⟩
  have Z4 : Hid (ObB w4 w.heap.size noO (.slice none 0 0) (.slice none 0 0)) := Z3.out.by F4.gr (by omega)
  have m4 := F4.gr.cell m3 (@hne 0)
  have G4 : Hid (w.grownBy w4 (some b)) := G3.out.trans F4.gr
  have O4 : Hid (OwnsNu w4 g1 (.slice (some ⟨g1, 0, none⟩) 3 3) [a0, a1, a2]) := O3.out.by F4.gr (by omega)
  have C4 : Hid (OwnsNu w4 g2' (.slice (some ⟨g2', 0, none⟩) 4 4) [(n0 : Int), b1, (n2 : Int), (n3 : Int)]) := C3.out.by F4.gr (by omega)
  have hw3 : w.heap.size ≤ w3.heap.size := G3.out.size
  have hk4 := F4.le
  have hz3 : w.heap.size < w3.heap.size := Z3.out.hi
  clear Z3 S3 m3 G3 O3 C3 x0
  have x0 := ownsNu_at C4.out 2 (by simp)
  simp only [List.getElem_cons_zero, List.getElem_cons_succ] at x0
  go_wp2_with fail
  refine (implFldsS b t k4 n2 m w4 F4.rd hk4 ht g2 m4 hmb).mono ?_
  rintro e w5 ⟨u, mm, k5, rfl, F5⟩
  have Z5 : Hid (ObB w5 w.heap.size noO (.slice none 0 0) (.slice none 0 0)) := Z4.out.by F5.gr (by omega)
  have G5 : Hid (w.grownBy w5 (some b)) := G4.out.trans F5.gr
  have O5 : Hid (OwnsNu w5 g1 (.slice (some ⟨g1, 0, none⟩) 3 3) [a0, a1, a2]) := O4.out.by F5.gr (by omega)
  have C5 : Hid (OwnsNu w5 g2' (.slice (some ⟨g2', 0, none⟩) 4 4) [(n0 : Int), b1, (n2 : Int), (n3 : Int)]) := C4.out.by F5.gr (by omega)
  have HP5 : Hid (HasF w5 w3.heap.size p l) := F4.has.by F5.gr (by omega)
  have HPU : Hid (∀ k, p.ownBlock = some k → k < w4.heap.size) := F4.has.under
  have hw4 : w.heap.size ≤ w4.heap.size := G4.out.size
  have hk5 := F5.le
  clear Z4 m4 G4 O4 C4 x0
  have x0 := ownsNu_at C5.out 3 (by simp)
  simp only [List.getElem_cons_zero, List.getElem_cons_succ] at x0
  go_wp2_with fail
  refine (implPcD b t k5 n3 _ rfl hk5 ht w5 F5.rd).mono ?_
  rintro e w6 ⟨Y, rfl, hY, lY, q6⟩
  have Z6 : Hid (ObB w6 w.heap.size noO (.slice none 0 0) (.slice none 0 0)) := Z5.out.by q6 (by omega)
  have G6 : Hid (w.grownBy w6 (some b)) := G5.out.trans q6
  have O6 := O5.out.by q6 (by omega)
  have C6 := C5.out.by q6 (by omega)
  have HP6 : Hid (HasF w6 w3.heap.size p l) := HP5.out.by q6 (by omega)
  have HU6 : Hid (HasF w6 w4.heap.size u mm) := F5.has.by q6 (by omega)
  have y0 := ownsNu_at O6 0 (by simp)
  have y1 := ownsNu_at O6 1 (by simp)
  have y2 := ownsNu_at O6 2 (by simp)
  have y3 := ownsNu_at C6 1 (by simp)
  simp only [List.getElem_cons_zero, List.getElem_cons_succ] at y0 y1 y2 y3
  obtain ⟨pa, pc, hpv, _⟩ := HP6.out.form
  subst hpv
  obtain ⟨ua, uc, huv, _⟩ := HU6.out.form
  subst huv
  have F4is := F4.is
  rw [d3] at F4is
  have HO : Hid (ObG w (putL w6 w.heap.size (obL (⟨txtL K, l, ⟨b1, mm, txtL Y⟩, a0, a1, a2⟩ : Ob) (.slice pa l.length pc) (.slice ua mm.length uc)) 0) b t (⟨txtL K, l, ⟨b1, mm, txtL Y⟩, a0, a1, a2⟩ : Ob) (.slice pa l.length pc) (.slice ua mm.length uc)) := by
    have hgp := grown_putL (grown_selfS w6 (some w.heap.size)) (obL (⟨txtL K, l, ⟨b1, mm, txtL Y⟩, a0, a1, a2⟩ : Ob) (.slice pa l.length pc) (.slice ua mm.length uc)) 0
    refine ⟨HIS.out l _ mm _ Y F4is F5.is hY, (HP6.out.by hgp hz3).low hw3, (HU6.out.by hgp (by have := F4.gr.size; omega)).low hw4, fun g h1 h2 => ?_, F4.sz, F5.sz, F4.ln, F5.ln, hKs, by show (txtL Y).size ≤ _; rw [txt_len]; exact lY, ?_⟩
    · have := HPU.out g h1
      have := HU6.out.from g h2
      omega
    · exact ⟨hgp.os.trans G6.out.os, hgp.tape.trans G6.out.tape, hgp.output.trans G6.out.output, Nat.le_trans G6.out.size hgp.size, fun j hj hne => (hgp.block j (Nat.lt_of_lt_of_le hj G6.out.size) (fun e => by injection e with e; omega)).trans (G6.out.block j hj hne)⟩
  have HPT : Hid (ObB (putL w6 w.heap.size (obL (⟨txtL K, l, ⟨b1, mm, txtL Y⟩, a0, a1, a2⟩ : Ob) (.slice pa l.length pc) (.slice ua mm.length uc)) 0) w.heap.size (⟨txtL K, l, ⟨b1, mm, txtL Y⟩, a0, a1, a2⟩ : Ob) (.slice pa l.length pc) (.slice ua mm.length uc)) := Z6.out.puts _ _ _
  obtain ⟨z0, z1, z2, z3, z4, z5, z6, z7, zf, zh⟩ := Z6.out
  simp only [noO, noS] at z0 z1 z2 z3 z4 z5 z6 z7
  clear F4 F5 F4is hY q6 Z5 Z6 G5 G6 O5 C5 O6 C6 HP5 HP6 HU6 HPU HIS x0
  go_wp2_with fail
  go_region
  clear y0 y1 y2 y3 z0 z1 z2 z3 z4 z5 z6 z7 zf zh
  refine then_gen ?_
  intro WF hWF
  have hl : Below (putL w6 w.heap.size (obL (⟨txtL K, l, ⟨b1, mm, txtL Y⟩, a0, a1, a2⟩ : Ob) (.slice pa l.length pc) (.slice ua mm.length uc)) 0).heap.size (putL w6 w.heap.size (obL (⟨txtL K, l, ⟨b1, mm, txtL Y⟩, a0, a1, a2⟩ : Ob) (.slice pa l.length pc) (.slice ua mm.length uc)) 0) WF := by
    rw [hWF]
    exact below_drewS _
  have ho := HO.out.kept hl
  obtain ⟨p0, p1, p2, p3, p4, p5, p6, p7, pf, ph⟩ := HPT.out.next hl
  have HOO : Hid (ObG w WF b t _ _ _) := ho
  clear hWF hl HO HPT ho
  simp only at p0 p1 p2 p3 p4 p5 p6 p7
  go_wp2
  refine bodyPost_ret (v := obV (⟨txtL K, l, ⟨b1, mm, txtL Y⟩, a0, a1, a2⟩ : Ob) (.slice pa l.length pc) (.slice ua mm.length uc)) (by unfold obV; simp [results, Tryz.results35, go_sem, p0, p1, p2, p3, p4, p5, p6, p7]) rfl ⟨_, _, _, rfl, HOO.out⟩
end Go.Proofs.YtemmgfnepdgpbaaGreatDoor
namespace Go.Proofs.YtemmgfnepdgpbaaGreatDoor
open Go.RowKit Go.Sort St
set_option linter.unusedVariables false

/-- The library's table of powers of ten lies as its text lays it. -/
def TabS (w : World) : Prop := Lib.TabIs Tryz.prog w "internal/strconv.uint64pow10" .u64 Lib.pow10Tab
theorem gPowS : Tryz.prog.globalNamed "internal/strconv.uint64pow10" = some 2 := by kernel_rfl
theorem TabS.low {w w' : World} (h : TabS w) (hb : Below w.heap.size w w') : TabS w' := Go.Joins.tab_stays gPowS h hb (Nat.le_refl _)
theorem low_growS (w : World) (k : Nat) (os : Array Obj) : Below w.heap.size w (grow (w.drewN k) os) :=
  ⟨rfl, rfl, rfl, by simp [grow], fun j hj => by simp only [grow]; exact Array.getElem?_append_left hj⟩
theorem fmtD (n : Int) (hn : few n) (w : World) (ht : TabS w) :
    Calls Tryz.prog 62 #[.int .i64 n, .int .i64 10] w fun e w' => e = .returned (.string (txtL (dd n))) ∧ Below w.heap.size w w' := by
  obtain ⟨h0, h1⟩ := hn
  have e : (⟨(Lib.itoa n).toArray⟩ : ByteArray) = txtL (dd n) := by unfold Lib.itoa dd txtL; rw [if_neg (by omega)]
  rw [← e]
  exact (Tryz.formatInt n (by omega) (by omega) w ht).mono fun e w' ⟨h1, k, os, h2⟩ => ⟨h1, by rw [h2]; exact low_growS w k os⟩
end Go.Proofs.YtemmgfnepdgpbaaGreatDoor
namespace Go.Proofs.YtemmgfnepdgpbaaGreatDoor
open Go.RowKit Go.Sort St
set_option linter.unusedVariables false
set_option linter.unusedSimpArgs false

theorem Tryz.info9s : (Tryz.prog.info? 9).map (fun i => (i.zero, i.size, i.bytes)) = some (some (.string ⟨#[]⟩), 1, 16) := by kernel_rfl
theorem txt_atS {w : World} {B g n cap : Nat} {l : List ByteArray} (h : OwnsE txtE 9 w B (.slice (some ⟨g, 0, Option.none⟩) n cap) l) (j : Nat) (hj : j < l.length) : w.cell? ⟨g, j, Option.none⟩ = some (.string l[j]) := by
  have := h.at (i := 0) hj (u := .string l[j]) rfl
  rw [show j * txtE.k + 0 = j from by show j * 1 + 0 = j; omega] at this
  exact this
theorem txt_putS {w : World} {B g n cap : Nat} {l : List ByteArray} (hn : n = l.length) (h : OwnsE txtE 9 w B (.slice (some ⟨g, 0, Option.none⟩) n cap) l) {j : Nat} (hj : j < l.length) (x : ByteArray) : OwnsE txtE 9 (w.setCell ⟨g, j, Option.none⟩ (.string x)) B (.slice (some ⟨g, 0, Option.none⟩) n cap) (l.set j x) := by
  have := h.put hn hj (i := 0) (by decide) (.string x) x rfl
  rw [show j * txtE.k + 0 = j from by show j * 1 + 0 = j; omega] at this
  exact this
theorem cells_atS (l : List ByteArray) (j : Nat) (hj : j < l.length) : (cellsE txtE l)[j]? = some (.string l[j]) := by
  have := cellsE_at txtE l j hj 0 (by decide)
  rw [show j * txtE.k + 0 = j from by show j * 1 + 0 = j; omega] at this
  exact this
theorem madeS (n : Nat) : (madeCells (Value.cells (.string ⟨#[]⟩)) (n * 1)).toList = cellsE txtE (List.replicate n ⟨#[]⟩) := by
  rw [Nat.mul_one]
  apply List.ext_getElem?
  intro j
  by_cases hj : j < n
  · have e : (madeCells (Value.cells (.string ⟨#[]⟩)) n).toList[j]? = some (.string ⟨#[]⟩) := by simp [madeCells, hj, Value.cells, Nat.mod_one]
    rw [e, cells_atS (List.replicate n ⟨#[]⟩) j (by simpa using hj)]
    simp
  · rw [List.getElem?_eq_none (by simp [madeCells]; omega), List.getElem?_eq_none (by rw [cellsE_length]; simp; show n * 1 ≤ j; omega)]
/-- Shown so far: the first j numbers, and behind them nothing. -/
def turnS (ns : List Int) (j : Nat) : List ByteArray := (ns.take j).map (fun n => txtL (dd n)) ++ List.replicate (ns.length - j) ⟨#[]⟩
theorem turnS_len {ns : List Int} {j : Nat} (hj : j ≤ ns.length) : (turnS ns j).length = ns.length := by unfold turnS; simp; omega
theorem turnS_zero (ns : List Int) : turnS ns 0 = List.replicate ns.length ⟨#[]⟩ := by simp [turnS]
theorem turnS_all (ns : List Int) : turnS ns ns.length = ns.map (fun n => txtL (dd n)) := by simp [turnS]
theorem turnS_next {ns : List Int} {j : Nat} (hj : j < ns.length) : (turnS ns j).set j (txtL (dd ns[j])) = turnS ns (j + 1) := by
  unfold turnS
  have e : ((ns.take j).map (fun n => txtL (dd n))).length = j := by simp; omega
  rw [List.set_append_right _ _ (by omega), e, Nat.sub_self, List.take_succ_eq_append_getElem hj, List.map_append, List.append_assoc]
  congr 1
  rw [show ns.length - j = (ns.length - (j + 1)) + 1 from by omega, List.replicate_succ, List.set_cons_zero]
  rfl
/-- What is shown of a row of numbers. -/
def rwL (ns : List Int) : List UInt8 := Lib.join (ns.map dd) [32] ++ [10]
theorem rw_text (ns : List Int) : (⟨(Lib.join ((ns.map (fun n => txtL (dd n))).map (·.data.toList)) (⟨#[32]⟩ : ByteArray).data.toList).toArray⟩ : ByteArray) ++ ⟨#[10]⟩ = txtL (rwL ns) := by
  unfold rwL txtL
  rw [List.map_map]
  apply ByteArray.ext
  apply Array.ext'
  simp
  rfl
theorem join_lenS : ∀ (l : List (List UInt8)), (∀ x ∈ l, x.length ≤ 15) → (Lib.join l [32]).length ≤ 16 * l.length
  | [], _ => by simp [Lib.join, List.intercalate]
  | [x], h => by
    have := h x (by simp)
    simp [Lib.join, List.intercalate]
    omega
  | x :: y :: r, h => by
    have i := join_lenS (y :: r) (fun z hz => h z (List.mem_cons_of_mem _ hz))
    have hx := h x (by simp)
    have e : Lib.join (x :: y :: r) [32] = x ++ [32] ++ Lib.join (y :: r) [32] := by simp [Lib.join, List.intercalate, List.intersperse]
    rw [e]
    simp at i ⊢
    omega
theorem rw_3 (a b c : Int) : rwL [a, b, c] = (dd a ++ 32 :: (dd b ++ 32 :: dd c)) ++ [10] := by simp [rwL, Lib.join, List.intercalate]
theorem rw_4 (a b c d : Int) : rwL [a, b, c, d] = (dd a ++ 32 :: (dd b ++ 32 :: (dd c ++ 32 :: dd d))) ++ [10] := by simp [rwL, Lib.join, List.intercalate]
set_option maxRecDepth 100000 in
set_option maxHeartbeats 2000000 in
theorem implShR (g : Nat) (ns : List Int) (w : World) (hn : ns.length ≤ 4) (hp : 0 < ns.length) (hc : ∀ j (hj : j < ns.length), w.cell? ⟨g, j, none⟩ = some (.int .i64 ns[j])) (hg : g < w.heap.size) (hf : ∀ n ∈ ns, few n) (ht : TabS w) :
    Calls Tryz.prog 26 #[.slice (some ⟨g, 0, none⟩) ns.length ns.length] w fun e w' => e = .returned (.string (txtL (rwL ns))) ∧ Below w.heap.size w w' := by
  have HC : Hid (∀ j (hj : j < ns.length), w.cell? ⟨g, j, none⟩ = some (.int .i64 ns[j])) := hc
  have HF : Hid (∀ n ∈ ns, few n) := hf
  have HT : Hid (TabS w) := ht
  have hll : ns.length ≤ 9223372036854775807 := by omega
  obtain ⟨i0, hi, hz0, hz1, hz2⟩ := info_parts Tryz.info9s
  obtain ⟨w0, hrun, hown, hgr⟩ := run_make_full (P := Tryz.prog) w w.heap.size 39 9 i0 (.string ⟨#[]⟩) 1 Tryz.underlying39 hi hz0 hz1 .i64 .i64 ns.length (by rw [hz2]; omega) (by unfold maxLen; omega) (Nat.le_refl _)
  have hown0 : Hid (OwnsE txtE 9 w0 w.heap.size (.slice (some ⟨w.heap.size, 0, Option.none⟩) ns.length ns.length) (turnS ns 0)) := by
    rw [madeS] at hown
    show w0.ownsRow _ _ 1 _ _ _
    rw [turnS_len (Nat.zero_le _), turnS_zero]
    exact hown
  have hb0 : Hid (Below w.heap.size w w0) := (show Below _ _ _ from (Below.refl _ w).grown hgr (Nat.le_refl _) (fun j hj => by cases hj))
  clear hown hgr hi hz0 hz1 hz2 hc hf ht
  go_enter Tryz.func26, Tryz.ntmps26
  go_wp2
  go_loopw [11] (fun i wr => ∃ j : Nat, j ≤ ns.length ∧ i = .int .i64 j ∧ Hid (OwnsE txtE 9 wr w.heap.size (.slice (some ⟨w.heap.size, 0, Option.none⟩) ns.length ns.length) (turnS ns j)) ∧ Hid (Below w.heap.size w wr)) (fun i _ => ns.length - (intOf i).toNat)
  case atStart => exact ⟨0, Nat.zero_le _, rfl, hown0, hb0⟩
  case round =>
    clear hown0 hb0 hrun
    obtain ⟨j, hj, rfl, ho, hb0⟩ := hrel
    by_cases hlt : j < ns.length
    · have c1 := (hb0.out.cell (p := ⟨g, j, none⟩) hg).trans (HC.out j hlt)
      have hji : (j : Int) < (ns.length : Int) := by omega
      have hfm := fmtD ns[j] (HF.out _ (List.getElem_mem hlt)) wr (HT.out.low hb0.out)
      have HNX : Hid ((turnS ns j).set j (txtL (dd ns[j])) = turnS ns (j + 1)) := turnS_next hlt
      have HLN : Hid ((turnS ns j).length = ns.length) := turnS_len hj
      generalize ns[j] = x at c1 hfm HNX
      generalize txtL (dd x) = y at hfm HNX
      go_wp2_with fail
      refine hfm.mono ?_
      rintro e w1 ⟨rfl, hb1⟩
      have ho1 := ho.out.kept hb1
      have hlt2 : j < (turnS ns j).length := by rw [HLN.out]; exact hlt
      have d1 := txt_atS ho1 j hlt2
      have f1 := ho1.free HLN.out.symm j
      have HP : Hid (OwnsE txtE 9 (w1.setCell ⟨w.heap.size, j, none⟩ (.string y)) w.heap.size (.slice (some ⟨w.heap.size, 0, Option.none⟩) ns.length ns.length) (turnS ns (j + 1))) := by
        have := txt_putS HLN.out.symm ho1 hlt2 y
        rw [HNX.out] at this
        exact this
      have HB : Hid (Below w.heap.size w (w1.setCell ⟨w.heap.size, j, none⟩ (.string y))) := (show Below _ _ _ from (hb0.out.trans (hb1.mono hb0.out.size)).setCell (Nat.le_refl _) _)
      generalize ((turnS ns j)[j]'hlt2) = dd0 at d1
      clear hb1 hb0 ho ho1 HNX HLN hlt2
      go_wp2
      go_roundw
      case rel => exact ⟨j + 1, by omega, by go_num, HP, HB⟩
      case measure => simp [intOf]; omega
    · obtain rfl : j = ns.length := by omega
      have HO := ho.out
      rw [turnS_all] at HO
      have hln : (ns.map fun n => txtL (dd n)).length = ns.length := List.length_map ..
      have hjn := Tryz.strings_Join w.heap.size 0 ns.length (ns.map fun n => txtL (dd n)) ⟨#[32]⟩ wr (fun j x hx => by
        obtain ⟨hj, rfl⟩ := List.getElem?_eq_some_iff.1 hx
        rw [Nat.zero_add]
        exact txt_atS HO j hj) (HO.under _ rfl) (by rw [hln]; omega) (by rw [hln]; exact Nat.le_refl _) (by
        have := join_lenS (ns.map dd) (fun x hx => by
          obtain ⟨n, hn, rfl⟩ := List.mem_map.1 hx
          exact dd_len (HF.out n hn).2)
        rw [List.length_map] at this
        rw [List.map_map]
        show (Lib.join (ns.map dd) [32]).length ≤ _
        omega)
      rw [hln] at hjn
      have hql := join_lenS (ns.map dd) (fun x hx => by
        obtain ⟨n, hn, rfl⟩ := List.mem_map.1 hx
        exact dd_len (HF.out n hn).2)
      rw [List.length_map] at hql
      have HQ : Hid (_ = txtL (rwL ns)) := rw_text ns
      have hqs : (⟨(Lib.join ((ns.map (fun n => txtL (dd n))).map (·.data.toList)) (⟨#[32]⟩ : ByteArray).data.toList).toArray⟩ : ByteArray).size ≤ 64 := by
        rw [List.map_map]
        show (Lib.join (ns.map dd) [32]).toArray.size ≤ 64
        simp
        omega
      generalize (⟨(Lib.join ((ns.map (fun n => txtL (dd n))).map (·.data.toList)) (⟨#[32]⟩ : ByteArray).data.toList).toArray⟩ : ByteArray) = q at hjn HQ hqs
      clear HO ho HC HF HT hln
      go_wp2_with fail
      refine hjn.mono ?_
      rintro e w1 ⟨rfl, hb1⟩
      have hq1 : (q ++ (⟨#[10]⟩ : ByteArray)).size = q.size + 1 := by rw [ByteArray.size_append]; rfl
      go_wp2
      go_ret
      exact ⟨congrArg (fun x => Ending.returned (.string x)) HQ.out, hb0.out.trans (hb1.mono hb0.out.size)⟩
theorem lit_num (W : World) (ns : List Int) (j : Nat) (hj : j < ns.length) : (W.alloc (.cells (ns.map (Value.int .i64)).toArray 2)).cell? ⟨W.heap.size, j, none⟩ = some (.int .i64 ns[j]) := by
  rw [World.cell?_alloc_mark]
  simp [hj]
theorem implShRn (ns : List Int) (hn : ns.length ≤ 4) (hp : 0 < ns.length) (hf : ∀ n ∈ ns, few n) (W : World) (B : Nat) (hB : B = W.heap.size) (ht : TabS W) :
    Calls Tryz.prog 26 #[.slice (some ⟨B, 0, none⟩) ns.length ns.length] (W.alloc (.cells (ns.map (Value.int .i64)).toArray 2)) fun e w' => e = .returned (.string (txtL (rwL ns))) ∧ Below W.heap.size W w' := by
  subst hB
  have hb := (Below.refl W.heap.size W).alloc (Nat.le_refl _) (.cells (ns.map (Value.int .i64)).toArray 2)
  refine (implShR W.heap.size ns _ hn hp (lit_num W ns) (by simp) hf (ht.low hb)).mono ?_
  rintro e w' ⟨rfl, h⟩
  exact ⟨rfl, hb.trans (h.mono hb.size)⟩
end Go.Proofs.YtemmgfnepdgpbaaGreatDoor
namespace Go.Proofs.YtemmgfnepdgpbaaGreatDoor
open Go.RowKit
theorem implSta (x : Int) (w : World) :
    Calls Tryz.prog 87 #[.int .i64 x] w fun e w' => e = .returned (.bool (decide (200 ≤ x ∧ x ≤ 599))) ∧ w = w' := by
  obtain ⟨b, hb⟩ : ∃ b, decide (200 ≤ x ∧ x ≤ 599) = b := ⟨_, rfl⟩
  rw [hb]
  by_cases h1 : 200 ≤ x
  · have H0 : Hid (decide (x ≤ 599) = b) := by show decide (x ≤ 599) = b; rw [← hb]; simp [h1]
    have d1 : decide (200 ≤ x) = true := by simpa using h1
    clear hb
    go_enter Tryz.func87, Tryz.ntmps87
    go_wp2
    go_ret
    exact ⟨ret_bool H0.out, rfl⟩
  · have H0 : Hid (false = b) := by show false = b; rw [← hb]; simp [h1]
    have d1 : decide (200 ≤ x) = false := by simpa using h1
    clear hb
    go_enter Tryz.func87, Tryz.ntmps87
    go_wp2
    go_ret
    exact ⟨ret_bool H0.out, rfl⟩
theorem implBare (s : Int) (w : World) :
    Calls Tryz.prog 86 #[.int .i64 s] w fun e w' => e = .returned (.bool (bareB s)) ∧ w = w' := by
  by_cases h1 : s = 204
  · subst h1
    have H0 : Hid (true = bareB 204) := rfl
    go_enter Tryz.func86, Tryz.ntmps86
    go_wp2
    go_ret
    exact ⟨ret_bool H0.out, rfl⟩
  · have d1 : (s == 204) = false := by simp [h1]
    by_cases h2 : s = 304
    · subst h2
      have H0 : Hid (true = bareB 304) := rfl
      go_enter Tryz.func86, Tryz.ntmps86
      go_wp2
      go_ret
      exact ⟨ret_bool H0.out, rfl⟩
    · have d2 : (s == 304) = false := by simp [h2]
      have H0 : Hid (false = bareB s) := by show false = bareB s; unfold bareB; simp [h1, h2]
      go_enter Tryz.func86, Tryz.ntmps86
      go_wp2
      go_ret
      exact ⟨ret_bool H0.out, rfl⟩

/-! ### Where it ends -/
theorem fold_void (n : ByteArray) : ∀ (l : List Fl) (p : ByteArray × Bool), (l.foldl (gStep n) p).2 = false → l.foldl (gStep n) p = p
  | [], _, _ => rfl
  | f :: l, p, h => by
    rw [List.foldl_cons] at h ⊢
    have e := fold_void n l _ h
    rw [e] at h ⊢
    unfold gStep at h ⊢
    split
    · rename_i hh; rw [if_pos hh] at h; cases h
    · rfl
theorem getF_void {l : List Fl} {n : ByteArray} (h : (getF l n).2 = false) : (getF l n).1 = ⟨#[]⟩ := by
  have := fold_void n l _ h
  unfold getF
  rw [this]
theorem low_void : lowS ⟨#[]⟩ = ⟨#[]⟩ := rfl
theorem void_ch : ¬ lowS ⟨#[]⟩ = chS := by rw [low_void]; intro e; have := congrArg ByteArray.size e; revert this; decide
theorem num_void : numOk 10 15 ⟨#[]⟩ = false := by decide +kernel
set_option maxHeartbeats 1000000 in
theorem implFrm (v : Value) (l : List Fl) (w : World) (h : Fits w v l) :
    Calls Tryz.prog 120 #[v] w fun e w' => e = .returned (frmE (frm l)) ∧ Below w.heap.size w w' := by
  have hz := h.2.1
  obtain ⟨a, cap, rfl, hcap⟩ := h.1
  have HF : Hid (Fits w (.slice a l.length cap) l) := h
  clear h hcap
  cases hok : fldsOk l with
  | false =>
    have H0 : Hid ((3, 0) = frm l) := frm_bad hok
    go_enter Tryz.func120, Tryz.ntmps120
    go_wp2_with (go_at_call 59; refine (implOk _ l _ HF.out.1 hz).mono ?_; rw [hok]; rintro e w1 ⟨rfl, hb1⟩)
    go_ret2
    exact ⟨ret_frm H0.out, hb1⟩
  | true =>
    have F0 := @frm_neither l hok
    have F1 := @frm_both l hok
    have F2 := @frm_len l hok
    have F3 := @frm_nolen l hok
    have F4 := @frm_ch l hok
    have F5 := @frm_noch l hok
    have zx := getF_fits clS hok
    have zy := getF_fits teS hok
    have vx : (getF l clS).2 = false → (getF l clS).1 = ⟨#[]⟩ := getF_void
    have vy : (getF l teS).2 = false → (getF l teS).1 = ⟨#[]⟩ := getF_void
    have hg1 : Hid (∀ w, Fits w (.slice a l.length cap) l → Calls Tryz.prog 143 #[.slice a l.length cap, .string clS] w fun e w' => e = .returned (.tuple #[.string (getF l clS).1, .bool (getF l clS).2]) ∧ Below w.heap.size w w') := fun w h => by have := implGet _ l clS w h.1 h.2.1 (by decide); unfold getE at this; rw [← getA_yes clS hok] at this; exact this
    have hg2 : Hid (∀ w, Fits w (.slice a l.length cap) l → Calls Tryz.prog 143 #[.slice a l.length cap, .string teS] w fun e w' => e = .returned (.tuple #[.string (getF l teS).1, .bool (getF l teS).2]) ∧ Below w.heap.size w w') := fun w h => by have := implGet _ l teS w h.1 h.2.1 (by decide); unfold getE at this; rw [← getA_yes teS hok] at this; exact this
    generalize frm l = fr at F0 F1 F2 F3 F4 F5 ⊢
    generalize getF l clS = gx at F0 F1 F2 F3 F4 F5 zx vx hg1
    generalize getF l teS = gy at F0 F1 F2 F3 F4 F5 zy vy hg2
    obtain ⟨x, p⟩ := gx
    obtain ⟨y, q⟩ := gy
    simp only at F0 F1 F2 F3 F4 F5 zx zy vx vy hg1 hg2
    have G0 : Hid _ := F0
    have G1 : Hid _ := F1
    have G2 : Hid _ := F2
    have G3 : Hid _ := F3
    have G4 : Hid _ := F4
    have G5 : Hid _ := F5
    have VX : Hid (p = false → x = ⟨#[]⟩) := vx
    have VY : Hid (q = false → y = ⟨#[]⟩) := vy
    clear F0 F1 F2 F3 F4 F5 vx vy
    unfold clS at hg1
    unfold teS at hg2
    go_enter Tryz.func120, Tryz.ntmps120
    go_wp2_with fail
    refine (implOk _ l _ HF.out.1 hz).mono ?_
    rw [hok]
    rintro e w1 ⟨rfl, hb1⟩
    have HF1 : Hid (Fits w1 (.slice a l.length cap) l) := HF.out.kept hb1
    clear HF
    go_wp2_with fail
    refine (hg1.out _ HF1.out).mono ?_
    rintro e w2 ⟨rfl, hb2'⟩
    have hb2 := past6 hb1 hb2'
    have HF2 : Hid (Fits w2 (.slice a l.length cap) l) := HF1.out.kept hb2'
    clear hb1 hb2' hg1 HF1
    go_wp2_with fail
    refine (hg2.out _ HF2.out).mono ?_
    rintro e w3 ⟨rfl, hb3'⟩
    have hb3 := past6 hb2 hb3'
    clear hb2 hb3' hg2 HF2
    go_wp2_with fail
    refine (implDig x _ (le_max (by omega))).mono ?_
    unfold numE
    rintro e w4 ⟨rfl, hb4'⟩
    have hb4 : Below w.heap.size w w4 := past6 hb3 hb4'
    clear hb3 hb4'
    cases p with
    | false =>
      cases q with
      | false =>
        have H0 : Hid ((0, 0) = fr) := G0.out rfl rfl
        clear G0 G1 G2 G3 G4 G5
        go_wp2
        go_ret2
        exact ⟨ret_frm H0.out, hb4⟩
      | true =>
        have hn0 : numOk 10 15 x = false := by rw [VX.out rfl]; exact num_void
        rw [hn0]
        generalize numV 10 15 x = n0
        clear hn0
        by_cases hc : lowS y = chS
        · have H0 : Hid ((2, 0) = fr) := G4.out rfl rfl hc
          have hq := same_ch (same_yes hc)
          clear G0 G1 G2 G3 G4 G5 hc
          go_wp2_with (go_at_call 144; refine (implLow y _ (le_max (by omega))).mono ?_; rintro e w5 ⟨rfl, hb5⟩)
          go_ret2
          exact ⟨ret_frm H0.out, past6 hb4 hb5⟩
        · have H0 : Hid ((3, 0) = fr) := G5.out rfl rfl hc
          have hq := same_ch (same_no hc)
          clear G0 G1 G2 G3 G4 G5 hc
          go_wp2_with (go_at_call 144; refine (implLow y _ (le_max (by omega))).mono ?_; rintro e w5 ⟨rfl, hb5⟩)
          go_ret2
          exact ⟨ret_frm H0.out, past6 hb4 hb5⟩
    | true =>
      cases q with
      | true =>
        have H0 : Hid ((3, 0) = fr) := G1.out rfl rfl
        clear G0 G1 G2 G3 G4 G5
        go_wp2
        go_ret2
        exact ⟨ret_frm H0.out, hb4⟩
      | false =>
        have g2 := G2.out rfl rfl
        have g3 := G3.out rfl rfl
        have hy : Hid (y = ⟨#[]⟩) := VY.out rfl
        have hq : ((lowS y).toList == [99, 104, 117, 110, 107, 101, 100]) = false := by rw [hy.out]; exact same_ch (same_no void_ch)
        generalize numV 10 15 x = n at g2 g3 ⊢
        generalize numOk 10 15 x = o at g2 g3 ⊢
        clear G0 G1 G2 G3 G4 G5
        cases o with
        | false =>
          have H0 : Hid ((3, 0) = fr) := g3 (by simp)
          clear g2 g3
          go_wp2_with (go_at_call 144; refine (implLow y _ (le_max (by omega))).mono ?_; rintro e w5 ⟨rfl, hb5⟩)
          go_ret2
          exact ⟨ret_frm H0.out, past6 hb4 hb5⟩
        | true =>
          by_cases hn : n ≤ 4000
          · have H0 : Hid ((1, n) = fr) := g2 ⟨rfl, hn⟩
            have d1 : decide (n ≤ 4000) = true := by simpa using hn
            clear g2 g3
            go_wp2
            go_ret2
            exact ⟨ret_frm H0.out, hb4⟩
          · have H0 : Hid ((3, 0) = fr) := g3 (by simp [hn])
            have d1 : decide (n ≤ 4000) = false := by simpa using hn
            clear g2 g3
            go_wp2_with (go_at_call 144; refine (implLow y _ (le_max (by omega))).mono ?_; rintro e w5 ⟨rfl, hb5⟩)
            go_ret2
            exact ⟨ret_frm H0.out, past6 hb4 hb5⟩
theorem own_frm (l : List Fl) : ((frm l).1 == 0) = ownB l := by
  unfold ownB frm
  cases fldsOk l with
  | false => rfl
  | true =>
    rw [if_pos rfl]
    cases (getF l clS).2 with
    | true =>
      rw [if_pos rfl]
      split
      · rfl
      · split <;> rfl
    | false =>
      rw [if_neg (by decide)]
      cases (getF l teS).2 with
      | true => rw [if_pos rfl]; split <;> rfl
      | false => rw [if_neg (by decide)]; rfl
theorem implUnf (v : Value) (l : List Fl) (w : World) (h : Fits w v l) :
    Calls Tryz.prog 88 #[v] w fun e w' => e = .returned (.bool (ownB l)) ∧ Below w.heap.size w w' := by
  have hf := implFrm v l w h
  have H0 : Hid (((frm l).1 == 0) = ownB l) := own_frm l
  obtain ⟨a, cap, rfl, hcap⟩ := h.1
  clear hcap h
  unfold frmE at hf
  generalize frm l = fr at hf H0
  obtain ⟨k, n⟩ := fr
  simp only at hf H0
  go_enter Tryz.func88, Tryz.ntmps88
  go_wp2_with (go_at_call 120; refine hf.mono ?_; rintro e w1 ⟨rfl, hb1⟩)
  go_ret
  exact ⟨ret_bool H0.out, hb1⟩
theorem rsOk_bad {r : Rs} (h4 : bareB r.s = true) (h5 : ¬ r.b.size = 0) : false = rsOk r := by unfold rsOk; rw [h4, decide_eq_false h5]; simp
theorem rsOk_is2 {r : Rs} (h : decide (200 ≤ r.s ∧ r.s ≤ 599) = true) (h2 : ownB r.l = true) (h4 : bareB r.s = false ∨ r.b.size = 0) : decide ((r.b.size : Int) ≤ 4000) = rsOk r := by
  unfold rsOk
  rw [h, h2]
  have e : (!bareB r.s || decide (r.b.size = 0)) = true := by rcases h4 with h4 | h4 <;> simp [h4]
  rw [e]
  by_cases hb : r.b.size ≤ 4000
  · rw [decide_eq_true hb, decide_eq_true (by omega)]; rfl
  · rw [decide_eq_false hb, decide_eq_false (by omega)]; rfl
set_option maxHeartbeats 1000000 in
theorem implRsOk_tail (r : Rs) (v : Value) (w : World) (h : RsIn w v r) (h4 : bareB r.s = false ∨ r.b.size = 0) :
    Calls Tryz.prog 60 #[rsV r v] w fun e w' => e = .returned (.bool (rsOk r)) ∧ Below w.heap.size w w' := by
  obtain ⟨hf, z3⟩ := h
  have hfs := hf.1
  obtain ⟨a, cap, rfl, hcap⟩ := hfs
  clear hcap
  unfold rsV
  have F0 : Hid (Fits (w.alloc (.cells #[.int .i64 r.s, .slice a r.l.length cap, .string r.b] 26)) (.slice a r.l.length cap) r.l) := hf.alloc _
  have Q0 : Hid (RsB (w.alloc (.cells #[.int .i64 r.s, .slice a r.l.length cap, .string r.b] 26)) w.heap.size r (.slice a r.l.length cap)) := RsB.new w r _ _
  have B0 : Hid (Below w.heap.size w (w.alloc (.cells #[.int .i64 r.s, .slice a r.l.length cap, .string r.b] 26))) := (Below.refl _ w).alloc (Nat.le_refl _) _
  clear hf
  have hq1 : r.b.size ≤ 9223372036854775807 := by omega
  have H4 : Hid (bareB r.s = false ∨ r.b.size = 0) := h4
  have hbe : bareB r.s = true → r.b.toList.isEmpty = true := fun hb => by rw [void_emp]; rcases h4 with h4 | h4; · rw [h4] at hb; cases hb
                                                                          · exact decide_eq_true h4
  clear h4
  go_enter Tryz.func60, Tryz.ntmps60
  go_wp2_with fail
  refine (implBare _ _).mono ?_
  rintro e w1 ⟨rfl, rfl⟩
  cases hba : bareB r.s with
  | true =>
    have hb1 := hbe hba
    have hb2 : r.b.toList = [] := by simpa using hb1
    clear hbe
    go_wp2_with fail
    refine (implSta _ _).mono ?_
    rintro e w1 ⟨rfl, rfl⟩
    clear hb1 hb2
    cases h1 : decide (200 ≤ r.s ∧ r.s ≤ 599) with
    | false =>
      have H0 : Hid (false = rsOk r) := rsOk_no1 h1
      go_wp2
      go_ret
      exact ⟨ret_bool H0.out, B0.out⟩
    | true =>
      go_wp2_with fail
      refine (implUnf _ r.l _ F0.out).mono ?_
      rintro e w2 ⟨rfl, hb2⟩
      have Q2 : Hid (RsB w2 w.heap.size r (.slice a r.l.length cap)) := Q0.out.next hb2
      have B2 : Hid (Below w.heap.size w w2) := past6 B0.out hb2
      clear Q0 B0 F0 hb2
      have a2 := Q2.out.c2
      cases h2 : ownB r.l with
      | false =>
        have H0 : Hid (false = rsOk r) := rsOk_no2 h1 h2
        go_wp2
        go_ret
        exact ⟨ret_bool H0.out, B2.out⟩
      | true =>
        have H0 : Hid (decide ((r.b.size : Int) ≤ 4000) = rsOk r) := rsOk_is2 h1 h2 H4.out
        go_wp2
        go_ret
        exact ⟨ret_bool H0.out, B2.out⟩
  | false =>
    clear hbe
    go_wp2_with fail
    refine (implSta _ _).mono ?_
    rintro e w1 ⟨rfl, rfl⟩
    cases h1 : decide (200 ≤ r.s ∧ r.s ≤ 599) with
    | false =>
      have H0 : Hid (false = rsOk r) := rsOk_no1 h1
      go_wp2
      go_ret
      exact ⟨ret_bool H0.out, B0.out⟩
    | true =>
      go_wp2_with fail
      refine (implUnf _ r.l _ F0.out).mono ?_
      rintro e w2 ⟨rfl, hb2⟩
      have Q2 : Hid (RsB w2 w.heap.size r (.slice a r.l.length cap)) := Q0.out.next hb2
      have B2 : Hid (Below w.heap.size w w2) := past6 B0.out hb2
      clear Q0 B0 F0 hb2
      have a2 := Q2.out.c2
      cases h2 : ownB r.l with
      | false =>
        have H0 : Hid (false = rsOk r) := rsOk_no2 h1 h2
        go_wp2
        go_ret
        exact ⟨ret_bool H0.out, B2.out⟩
      | true =>
        have H0 : Hid (decide ((r.b.size : Int) ≤ 4000) = rsOk r) := rsOk_is2 h1 h2 H4.out
        go_wp2
        go_ret
        exact ⟨ret_bool H0.out, B2.out⟩
set_option maxHeartbeats 1000000 in
theorem implRsOk (r : Rs) (v : Value) (w : World) (h : RsIn w v r) :
    Calls Tryz.prog 60 #[rsV r v] w fun e w' => e = .returned (.bool (rsOk r)) ∧ Below w.heap.size w w' := by
  by_cases h4 : bareB r.s = false ∨ r.b.size = 0
  · exact implRsOk_tail r v w h h4
  · have hba : bareB r.s = true := by cases e : bareB r.s with
      | false => exact absurd (.inl e) h4
      | true => rfl
    have hbz : ¬ r.b.size = 0 := fun e => h4 (.inr e)
    have hbe : r.b.toList.isEmpty = false := by rw [void_emp]; exact decide_eq_false hbz
    have hbl : ¬ r.b.toList = [] := by simpa using hbe
    have H0 : Hid (false = rsOk r) := rsOk_bad hba hbz
    obtain ⟨hf, z3⟩ := h
    have hfs := hf.1
    obtain ⟨a, cap, rfl, hcap⟩ := hfs
    clear hcap hf h4 hbz
    unfold rsV
    have Q0 : Hid (RsB (w.alloc (.cells #[.int .i64 r.s, .slice a r.l.length cap, .string r.b] 26)) w.heap.size r (.slice a r.l.length cap)) := RsB.new w r _ _
    have B0 : Hid (Below w.heap.size w (w.alloc (.cells #[.int .i64 r.s, .slice a r.l.length cap, .string r.b] 26))) := (Below.refl _ w).alloc (Nat.le_refl _) _
    go_enter Tryz.func60, Tryz.ntmps60
    go_wp2_with fail
    refine (implBare _ _).mono ?_
    rw [hba]
    rintro e w1 ⟨rfl, rfl⟩
    go_wp2
    go_ret
    exact ⟨ret_bool H0.out, B0.out⟩
end Go.Proofs.YtemmgfnepdgpbaaGreatDoor

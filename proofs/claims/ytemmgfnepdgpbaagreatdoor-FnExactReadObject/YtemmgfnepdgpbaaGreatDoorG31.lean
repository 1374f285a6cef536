/-
  What ReadObject answers, and the parts that it is read of.
  The program's guess of an object, by its contract.
  The library's FormatInt of a number of at most fifteen digits, by its contract.
-/
import Derived.Test.YtemmgfnepdgpbaaGreatDoorG28
import Derived.Test.YtemmgfnepdgpbaaGreatDoorG30
import Derived.Test.YtemmgfnepdgpbaaGreatDoorG27
import Derived.Test.YtemmgfnepdgpbaaGreatDoorG22
import Derived.Test.YtemmgfnepdgpbaaGreatDoorG26
import Derived.Test.YtemmgfnepdgpbaaGreatDoorG12
import Derived.Test.YtemmgfnepdgpbaaGreatDoorShelfG
import Derived.Lib.SmallJoins
import Derived.Lib.QuietBelow
import Derived.BigQuiet
namespace Go.Proofs.YtemmgfnepdgpbaaGreatDoor
open Go.RowKit Go.Sort St
set_option linter.unusedVariables false
set_option linter.unusedSimpArgs false

structure LnR where
  x : ByteArray
  a : Nat
  b : Bool
structure LnQ (s : ByteArray) (k : Nat) (z : LnR) : Prop where
  at_ : z.a ≤ s.size
  sz : z.x.size ≤ s.size
  yes : ∀ x q, ln10 (s.data.toList.drop k) = some (x, q) → z.b = true ∧ z.x = txtL x ∧ s.data.toList.drop z.a = q
  no : ln10 (s.data.toList.drop k) = none → z.b = false
theorem LnQ.is {s : ByteArray} {k : Nat} {z : LnR} (h : LnQ s k z) (hb : z.b = true) : ln10 (s.data.toList.drop k) = some (z.x.data.toList, s.data.toList.drop z.a) := by
  cases e : ln10 (s.data.toList.drop k) with
  | none => rw [h.no e] at hb; cases hb
  | some p =>
    obtain ⟨x, q⟩ := p
    obtain ⟨_, h2, h3⟩ := h.yes x q e
    rw [h2, h3, txt_lstG]
theorem specLnR (s : ByteArray) (k : Nat) (w : World) (hk : k ≤ s.size) (hs : s.size ≤ 1048576) :
    Calls Tryz.prog 44 #[.string s, .int .i64 k] w fun e w' => ∃ z : LnR, e = .returned (.tuple #[.string z.x, .int .i64 (z.a : Nat), .bool z.b]) ∧ LnQ s k z ∧ w = w' := by
  have hsl : s.data.toList.length = s.size := by simp
  refine (specLn s k w hk (by omega)).mono fun e w' ⟨h1, h2⟩ => ?_
  cases e1 : ln10 (s.data.toList.drop k) with
  | none =>
    rw [e1] at h1
    exact ⟨⟨⟨#[]⟩, 0, false⟩, h1, ⟨Nat.zero_le _, Nat.zero_le _, (fun x q h => by rw [e1] at h; cases h), fun _ => rfl⟩, h2⟩
  | some p =>
    obtain ⟨x, q⟩ := p
    rw [e1] at h1
    have hx := (ln10_is e1).1
    have hl := congrArg List.length hx
    rw [List.length_drop] at hl
    simp at hl
    have e2 : (s.size : Int) - (q.length : Int) = ((k + x.length + 1 : Nat) : Int) := by omega
    refine ⟨⟨txtL x, k + x.length + 1, true⟩, ?_, ⟨by show k + x.length + 1 ≤ _; omega, by show (txtL x).size ≤ _; rw [txt_sizG]; omega, fun x' q' h => ?_, fun h => by rw [e1] at h; cases h⟩, h2⟩
    · rw [h1]
      show Ending.returned (.tuple #[.string (txtL x), .int .i64 ((s.size : Int) - (q.length : Int)), .bool true]) = _
      rw [e2]
    · rw [e1] at h
      injection h with h
      injection h with h3 h4
      subst h3
      subst h4
      refine ⟨rfl, rfl, ?_⟩
      show s.data.toList.drop (k + x.length + 1) = q
      rw [show k + x.length + 1 = k + (x.length + 1) from by omega, ← List.drop_drop, hx, ← List.drop_drop]
      simp
theorem NmQ.is {w w' : World} {x : List UInt8} {c : Nat} {u : Value} {b : Bool} (h : NmQ w w' x c u b) (hb : b = true) : ∃ ns, numsL c x = some ns ∧ OwnsNu w' w.heap.size u ns ∧ ns.length = c ∧ ∀ n ∈ ns, few n := by
  cases e : numsL c x with
  | none => rw [h.no e] at hb; cases hb
  | some ns => exact ⟨ns, rfl, (h.yes ns e).2, nums_len e, nums_few e⟩
theorem FdQ.is {w w' : World} {s : ByteArray} {k c : Nat} {u : Value} {a : Nat} {b : Bool} (h : FdQ w w' s k c u a b) (hb : b = true) : ∃ l, fdL c (s.data.toList.drop k) = some (l, s.data.toList.drop a) ∧ OwnsF w' w.heap.size u l ∧ l.length = c := by
  cases e : fdL c (s.data.toList.drop k) with
  | none => rw [h.no e] at hb; cases hb
  | some p =>
    obtain ⟨l, q⟩ := p
    obtain ⟨_, h2, h3, h4⟩ := h.yes l q e
    exact ⟨l, by rw [h3], h2, h4⟩
/-- The parts of a text that is read. -/
structure RdP (t : List UInt8) (k t1 x t2 y t3 : List UInt8) (a b : List Int) : Prop where
  l1 : ln10 t = some (k, t1)
  l2 : ln10 t1 = some (x, t2)
  l3 : ln10 t2 = some (y, t3)
  n1 : numsL 3 x = some a
  n2 : numsL 4 y = some b
theorem rdO_line {t : List UInt8} {o : Ob} (h : rdO t = some o) : ∃ k t1 x t2 y t3 a b, RdP t k t1 x t2 y t3 a b := by
  unfold rdO at h
  simp only [Option.bind_eq_some_iff] at h
  obtain ⟨p, h1, q, h2, s, h3, a, h4, b, h5, _⟩ := h
  exact ⟨p.1, p.2, q.1, q.2, s.1, s.2, a, b, h1, h2, h3, h4, h5⟩
theorem RdP.rd {t k t1 x t2 y t3 : List UInt8} {a b : List Int} (h : RdP t k t1 x t2 y t3 a b) : rdO t = if b.getD 0 0 ≤ 30 ∧ b.getD 2 0 ≤ 30 then
      (fdL (b.getD 0 0).toNat t3).bind fun x => (fdL (b.getD 2 0).toNat x.2).bind fun y =>
        if b.getD 3 0 ≤ (y.2.length : Int) then lastO t (mkO k a b x.1 y.1 (y.2.take (b.getD 3 0).toNat)) else none
    else none := by
  unfold rdO
  rw [h.l1]
  simp only [Option.bind_some, h.l2, h.l3, h.n1, h.n2]
/-- What ReadObject answers. -/
structure RoR where
  o : Ob
  v : Value
  u : Value
  n : Int
  b : Bool
structure RoQ (w w' : World) (R : Option Ob) (z : RoR) : Prop where
  yes : ∀ o, R = some o → z.o = o ∧ z.b = true ∧ z.n = ((shoL o).length : Nat)
  no : R = none → z.o = noO ∧ z.b = false ∧ z.n = 0
  v : OwnsF w' w.heap.size z.v z.o.l
  u : OwnsF w' w.heap.size z.u z.o.r.l
  ne : ∀ g, z.v.ownBlock = some g → z.u.ownBlock ≠ some g
  low : Below w.heap.size w w'
theorem ownsF_none (w : World) (B : Nat) : OwnsF w B (.slice none 0 0) [] := ⟨by simp [cellsF], .inl ⟨rfl, rfl⟩⟩
theorem ro_no {w w' : World} {R : Option Ob} (h : R = none) (hb : Below w.heap.size w w') : ∃ z : RoR, Ending.returned (.tuple #[obV noO (.slice none 0 0) (.slice none 0 0), .int .i64 0, .bool false]) = .returned (.tuple #[obV z.o z.v z.u, .int .i64 z.n, .bool z.b]) ∧ RoQ w w' R z :=
  ⟨⟨noO, .slice none 0 0, .slice none 0 0, 0, false⟩, rfl, ⟨(fun o ho => by rw [h] at ho; cases ho), fun _ => ⟨rfl, rfl, rfl⟩, ownsF_none _ _, ownsF_none _ _, (fun g hg => by cases hg), hb⟩⟩
theorem nu_open {w : World} {B : Nat} {u : Value} {ns : List Int} (h : OwnsNu w B u ns) (hp : 0 < ns.length) : ∃ g cap, u = .slice (some ⟨g, 0, none⟩) ns.length cap ∧ ns.length ≤ cap ∧ cap ≤ maxLen ∧ ∀ j (hj : j < ns.length), w.cell? ⟨g, j, none⟩ = some (.int .i64 ns[j]) := by
  obtain ⟨ua, uc, rfl, h1, h2, h3⟩ := h.form
  rcases h3 with ⟨_, h0⟩ | ⟨g, rfl⟩
  · omega
  · exact ⟨g, uc, rfl, h1, h2, fun j hj => ownsNu_at h j hj⟩
theorem ns_three {ns : List Int} (h : ns.length = 3) : ∃ a b c, ns = [a, b, c] := by
  match ns, h with
  | [a, b, c], _ => exact ⟨a, b, c, rfl⟩
theorem ns_four {ns : List Int} (h : ns.length = 4) : ∃ a b c d, ns = [a, b, c, d] := by
  match ns, h with
  | [a, b, c, d], _ => exact ⟨a, b, c, d, rfl⟩
theorem solidS {w : World} {B : Nat} {v : Value} {l : List Fl} (h : OwnsF w B v l) : Solid v := by
  rcases h.2 with ⟨h0, _⟩ | ⟨g, cap, cur, hv, _⟩
  · rw [h0]; intro n c e; injection e with _ _ e; exact e.symm
  · rw [hv]; intro n c e; injection e with e _ _; cases e
theorem fitsS {w : World} {B : Nat} {v : Value} {l : List Fl} (h : OwnsF w B v l) (h1 : szL l ≤ 1048576) (h2 : l.length ≤ 1048576) : Fits w v l := ⟨h.fls, h1, h2, solidS h⟩
theorem putlowS {w : World} {B g : Nat} {v : Value} {l : List Fl} (h : OwnsF w B v l) (hg : g < B) (k : Nat) (x : Value) : OwnsF (w.setCell ⟨g, k, none⟩ x) B v l := by
  refine ⟨h.1, ?_⟩
  rcases h.2 with h0 | ⟨g2, cap, cur, hv, hbg, hg2, rest⟩
  · exact .inl h0
  · exact .inr ⟨g2, cap, cur, hv, hbg, (Below.heap_setCell _ _ _ _ (by show g2 ≠ g; omega)).trans hg2, rest⟩
theorem putLS {B g : Nat} {v : Value} {l : List Fl} : ∀ {w : World} (h : OwnsF w B v l) (hg : g < B) (vs : List Value) (i : Nat), OwnsF (putL w g vs i) B v l
  | w, h, hg, [], _ => h
  | w, h, hg, x :: vs, i => putLS (putlowS h hg i x) hg vs (i + 1)
theorem fld_small (x : List UInt8) : (fldAt x).1.size + (fldAt x).2.size ≤ x.length := by
  unfold fldAt
  show (txtL _).size + (txtL _).size ≤ _
  rw [txt_sizG, txt_sizG, List.length_take, List.length_drop]
  have := colK_le x
  omega
theorem fd_small : ∀ (c : Nat) (t : List UInt8) {l : List Fl} {q : List UInt8}, fdL c t = some (l, q) → szL l + q.length ≤ t.length ∧ l.length = c
  | 0, t, l, q, h => by
    simp only [fdL, Option.some.injEq, Prod.mk.injEq] at h
    obtain ⟨rfl, rfl⟩ := h
    exact ⟨by simp [szL_nil], rfl⟩
  | c + 1, t, l, q, h => by
    rw [fdL] at h
    cases e : lnS t with
    | none => rw [e] at h; cases h
    | some p =>
      obtain ⟨x, r⟩ := p
      rw [e] at h
      simp only at h
      split at h
      · cases e2 : fdL c r with
        | none => rw [e2] at h; cases h
        | some p2 =>
          obtain ⟨l2, q2⟩ := p2
          rw [e2] at h
          simp only [Option.map_some, Option.some.injEq, Prod.mk.injEq] at h
          obtain ⟨rfl, rfl⟩ := h
          obtain ⟨i1, i2⟩ := fd_small c r e2
          have hl := congrArg List.length (lnC_length (lnS_some e).1)
          simp at hl
          have hs := fld_small x
          have e3 : szL (fldAt x :: l2) = (fldAt x).1.size + (fldAt x).2.size + szL l2 := by simp [szL, szF]
          exact ⟨by rw [e3]; omega, by simp [i2]⟩
      · cases h
theorem bytes_sameG {a b : ByteArray} : (a.toList == b.toList) = decide (a = b) := by
  by_cases h : a = b
  · subst h; simp
  · rw [decide_eq_false h]
    have : ¬ a.toList = b.toList := fun e => h (bytes_extG (by rw [ByteArray.toList_eq, ByteArray.toList_eq] at e; exact e))
    simp [this]
theorem pre_iffG {r d : ByteArray} : r.data.toList <+: d.data.toList ↔ r.size ≤ d.size ∧ d.extract 0 r.size = r := by
  have hr : r.data.toList.length = r.size := by simp
  have hd : d.data.toList.length = d.size := by simp
  have e : (d.extract 0 r.size).data.toList = d.data.toList.take r.size := by simp [ByteArray.data_extract, List.extract_eq_take_drop]
  rw [List.prefix_iff_eq_take]
  constructor
  · intro h
    refine ⟨?_, bytes_extG (by rw [e, ← hr]; exact h.symm)⟩
    have := congrArg List.length h
    rw [List.length_take] at this
    omega
  · rintro ⟨_, h⟩
    rw [hr, ← e, h]
theorem void_ofG {s : ByteArray} : s.toList.isEmpty = decide (s.size = 0) := by
  have hlen : s.data.toList.length = s.size := by simp
  rw [ByteArray.toList_eq, ← hlen]
  cases s.data.toList <;> simp
theorem ro_yes {w w' : World} {R : Option Ob} {o : Ob} {v u : Value} {n : Int} (h : R = some o) (hn : n = ((shoL o).length : Nat)) (hv : OwnsF w' w.heap.size v o.l) (hu : OwnsF w' w.heap.size u o.r.l) (hne : ∀ g, v.ownBlock = some g → u.ownBlock ≠ some g) (hb : Below w.heap.size w w') : ∃ z : RoR, Ending.returned (.tuple #[obV o v u, .int .i64 n, .bool true]) = .returned (.tuple #[obV z.o z.v z.u, .int .i64 z.n, .bool z.b]) ∧ RoQ w w' R z :=
  ⟨⟨o, v, u, n, true⟩, rfl, ⟨(fun p hp => by rw [h] at hp; injection hp with hp; subst hp; exact ⟨rfl, rfl, hn⟩), (fun hx => by rw [h] at hx; cases hx), hv, hu, hne, hb⟩⟩
end Go.Proofs.YtemmgfnepdgpbaaGreatDoor
namespace Go.Proofs.YtemmgfnepdgpbaaGreatDoor
open Go.RowKit Go.Sort St
set_option linter.unusedVariables false
set_option linter.unusedSimpArgs false

theorem row_at {t : ByteArray} {k : Nat} {D X R : List UInt8} (hd : t.data.toList.drop k = D) (hk : k ≤ t.size) (he : rowX D = (X, R)) : t.data.toList.drop (t.size - R.length) = R ∧ R.length ≤ t.size ∧ X.length ≤ t.size := by
  have h := rowX_tail D
  have h2 := rowX_len D
  have hl : D.length = t.size - k := by rw [← hd, List.length_drop]; simp
  rw [he] at h h2
  simp only at h h2
  refine ⟨?_, by omega, by omega⟩
  conv => rhs; rw [← h, ← hd, List.drop_drop]
  congr 1
  rw [hd, hl]
  omega
theorem implRowD (b : Nat) (t : ByteArray) (k : Nat) (m : Int) (D X R : List UInt8) (hd : t.data.toList.drop k = D) (he : rowX D = (X, R)) (hk : k ≤ t.size) (ht : t.size ≤ 1048576) (w : World) (h : Sdr w b t k) (hm : w.cell? ⟨3, 0, none⟩ = some (.int .i64 m)) :
    Calls Tryz.prog 69 #[.pointer (some ⟨b, 0, none⟩)] w fun e w' => e = .returned (.string (txtL X)) ∧ Sdr w' b t (t.size - R.length) ∧ w.grownBy w' (some b) := by
  have := implRowS b t k m w h hk ht hm
  rw [hd, he] at this
  exact this
theorem implNumsD (c : Nat) (h1 : 1 ≤ c) (h4 : c ≤ 4) (b : Nat) (t : ByteArray) (k : Nat) (m : Int) (D X R : List UInt8) (hd : t.data.toList.drop k = D) (he : rowX D = (X, R)) (hk : k ≤ t.size) (ht : t.size ≤ 1048576) (hmb : 3 ≠ b) (w : World) (h : Sdr w b t k) (hm : w.cell? ⟨3, 0, none⟩ = some (.int .i64 m)) :
    Calls Tryz.prog 70 #[.pointer (some ⟨b, 0, none⟩), .int .i64 c] w fun e w' => e = .returned (.slice (some ⟨w.heap.size, 0, none⟩) c c) ∧ OwnsNu w' w.heap.size (.slice (some ⟨w.heap.size, 0, none⟩) c c) (numsX c (txtL X)) ∧ Sdr w' b t (t.size - R.length) ∧ w.grownBy w' (some b) := by
  have := implNumsS c h1 h4 b t k m w h hk ht hm hmb
  rw [hd, he] at this
  exact this
theorem implPcD (b : Nat) (t : ByteArray) (k n : Nat) (D : List UInt8) (hd : t.data.toList.drop k = D) (hk : k ≤ t.size) (ht : t.size ≤ 1048576) (w : World) (h : Sdr w b t k) :
    Calls Tryz.prog 72 #[.pointer (some ⟨b, 0, none⟩), .int .i64 n] w fun e w' => ∃ Y : List UInt8, e = .returned (.string (txtL Y)) ∧ (n ≤ D.length → Y = D.take n) ∧ Y.length ≤ t.size ∧ w.grownBy w' (some b) := by
  have hl : D.length = t.size - k := by rw [← hd, List.length_drop]; simp
  by_cases hn : n ≤ t.size - k
  · refine (implPcS_yes b t k n w h hk ht hn).mono ?_
    rintro e w' ⟨rfl, _, hg⟩
    rw [hd]
    exact ⟨D.take n, rfl, fun _ => rfl, by rw [List.length_take]; omega, hg⟩
  · refine (implPcS_no b t k n w h hk ht hn).mono ?_
    rintro e w' ⟨rfl, hb⟩
    exact ⟨[], rfl, fun h => by omega, by simp, grown_belowS (grown_selfS w _) hb⟩
theorem grown_putL {w w' : World} {g : Nat} (h : w.grownBy w' (some g)) : ∀ (vs : List Value) (i : Nat), w.grownBy (putL w' g vs i) (some g) := by
  intro vs
  induction vs generalizing w' with
  | nil => intro i; exact h
  | cons x vs ih => intro i; exact ih (grown_putS h i x) (i + 1)
theorem nums3 {ns : List Int} (h : ns.length = 3) : ∃ a b c, ns = [a, b, c] := by
  match ns, h with
  | [a, b, c], _ => exact ⟨a, b, c, rfl⟩
theorem nums4 {ns : List Int} (h : ns.length = 4) : ∃ a b c d, ns = [a, b, c, d] := by
  match ns, h with
  | [a, b, c, d], _ => exact ⟨a, b, c, d, rfl⟩
theorem OwnsNu.by {w w' : World} {B b : Nat} {v : Value} {l : List Int} (h : OwnsNu w B v l) (hg : w.grownBy w' (some b)) (hb : b < B) : OwnsNu w' B v l := h.grown hg (fun k hk e => by have := h.from k hk; injection e with e; omega)
theorem HasF.by {w w' : World} {B b : Nat} {v : Value} {l : List Fl} (h : HasF w B v l) (hg : w.grownBy w' (some b)) (hb : b < B) : HasF w' B v l := h.grown hg (fun k hk e => by have := h.from k hk; injection e with e; omega)
theorem ObB.by {w w' : World} {b c : Nat} {o : Ob} {v u : Value} (h : ObB w c o v u) (hg : w.grownBy w' (some b)) (hb : b ≠ c) : ObB w' c o v u := h.same (hg.block c h.hi (fun e => by injection e with e; omega)) hg.size
/-- What the guess is: the object that was written, where one was. -/
structure ObG (w w' : World) (b : Nat) (t : ByteArray) (o : Ob) (p u : Value) : Prop where
  is : ∀ o2, obB o2 = true → shoL o2 <+: t.data.toList → o = o2
  hp : HasF w' w.heap.size p o.l
  hu : HasF w' w.heap.size u o.r.l
  ne : ∀ g, p.ownBlock = some g → u.ownBlock ≠ some g
  z1 : szL o.l ≤ t.size
  z2 : szL o.r.l ≤ t.size
  n1 : o.l.length ≤ t.size
  n2 : o.r.l.length ≤ t.size
  kz : o.k.size ≤ t.size
  bz : o.r.b.size ≤ t.size
  gr : w.grownBy w' (some b)
theorem ObG.kept {w w' w'' : World} {b : Nat} {t : ByteArray} {o : Ob} {p u : Value} (h : ObG w w' b t o p u) (hb : Below w'.heap.size w' w'') : ObG w w'' b t o p u :=
  ⟨h.is, h.hp.kept hb, h.hu.kept hb, h.ne, h.z1, h.z2, h.n1, h.n2, h.kz, h.bz, grown_belowS h.gr hb⟩
theorem below_drewS (w : World) : Below w.heap.size w w.drew := ⟨rfl, rfl, rfl, Nat.le_refl _, fun _ _ => rfl⟩
theorem then_gen {K : Act → World → Prop} {Q : Exit → Act → World → Prop} {x : Exit} {a : Act} {w : World} (h : ∀ W, W = w → Exit.then K Q x a W) : Exit.then K Q x a w := h _ rfl
set_option maxRecDepth 100000 in
set_option maxHeartbeats 8000000 in
theorem implObjS (b : Nat) (t : ByteArray) (m : Int) (w : World) (h : Sdr w b t 0) (ht : t.size ≤ 1048576) (hm : w.cell? ⟨3, 0, none⟩ = some (.int .i64 m)) (hmb : 3 ≠ b) :
    Calls Tryz.prog 35 #[.pointer (some ⟨b, 0, none⟩)] w fun e w' => ∃ o p u, e = .returned (obV o p u) ∧ ObG w w' b t o p u := by
  have hbw : b < w.heap.size := h.hi
  obtain ⟨⟨K, D1⟩, e1⟩ : ∃ p, rowX t.data.toList = p := ⟨_, rfl⟩
  obtain ⟨⟨X2, D2⟩, e2⟩ : ∃ p, rowX D1 = p := ⟨_, rfl⟩
  obtain ⟨⟨X3, D3⟩, e3⟩ : ∃ p, rowX D2 = p := ⟨_, rfl⟩
  have d0 : t.data.toList.drop 0 = t.data.toList := rfl
  obtain ⟨d1, l1, lK⟩ := row_at d0 (Nat.zero_le _) e1
  obtain ⟨d2, l2, _⟩ := row_at d1 (Nat.sub_le _ _) e2
  obtain ⟨d3, l3, _⟩ := row_at d2 (Nat.sub_le _ _) e3
  have c1 := implRowD b t 0 m _ K D1 d0 e1 (Nat.zero_le _) ht
  have c2 := implNumsD 3 (by decide) (by decide) b t _ m _ X2 D2 d1 e2 (Nat.sub_le _ _) ht hmb
  have c3 := implNumsD 4 (by decide) (by decide) b t _ m _ X3 D3 d2 e3 (Nat.sub_le _ _) ht hmb
  obtain ⟨a0, a1, a2, hA⟩ := nums3 (numsX_len 3 (txtL X2) (by decide))
  obtain ⟨b0, b1, b2, b3, hB⟩ := nums4 (numsX_len 4 (txtL X3) (by decide))
  have fB := numsX_few 4 (txtL X3)
  rw [hB] at fB
  have f0 : few b0 := fB b0 (by simp)
  have f2 : few b2 := fB b2 (by simp)
  have f3 : few b3 := fB b3 (by simp)
  obtain ⟨n0, rfl⟩ := Int.eq_ofNat_of_zero_le f0.1
  obtain ⟨n2, rfl⟩ := Int.eq_ofNat_of_zero_le f2.1
  obtain ⟨n3, rfl⟩ := Int.eq_ofNat_of_zero_le f3.1
  have g0 : n0 < 1000000000000000 := by have := f0.2; omega
  have g2 : n2 < 1000000000000000 := by have := f2.2; omega
  have HIS : Hid (∀ l D4 mm D5 Y, FldG n0 D3 l D4 → FldG n2 D4 mm D5 → (n3 ≤ D5.length → Y = D5.take n3) → ∀ o, obB o = true → shoL o <+: t.data.toList → mkO K [a0, a1, a2] [(n0 : Int), b1, (n2 : Int), (n3 : Int)] l mm Y = o) := (show ∀ _, _ from fun l D4 mm D5 Y hl hm hy => by
    exact guess_is (d4 := D4) (d5 := D5) e1 e2 e3 hA.symm hB.symm hl hm hy)
  rw [hA] at c2
  rw [hB] at c3
  generalize t.size - D1.length = k1 at c1 c2 d1
  generalize t.size - D2.length = k2 at c2 c3 d2
  have hk3 : t.size - D3.length ≤ t.size := Nat.sub_le _ _
  generalize t.size - D3.length = k3 at c3 d3 hk3
  have hKs : (txtL K).size ≤ t.size := by rw [txt_len]; exact lK
  have ZX0 : Hid (ObB (w.alloc (.cells #[.string ⟨#[]⟩, .slice none 0 0, .int .i64 0, .slice none 0 0, .string ⟨#[]⟩, .int .i64 0, .int .i64 0, .int .i64 0] 28)) w.heap.size noO (.slice none 0 0) (.slice none 0 0)) := (show ObB _ _ _ _ _ from ObB.new w noO (.slice none 0 0) (.slice none 0 0) 28)
  have bA := (Below.refl w.heap.size w).alloc (Nat.le_refl _) (.cells #[.string ⟨#[]⟩, .slice none 0 0, .int .i64 0, .slice none 0 0, .string ⟨#[]⟩, .int .i64 0, .int .i64 0, .int .i64 0] 28)
  have SA := h.kept bA
  have mA := (bA.cell (p := ⟨3, 0, none⟩) (cell_lt hm)).trans hm
  have GA : Hid (w.grownBy (w.alloc (.cells #[.string ⟨#[]⟩, .slice none 0 0, .int .i64 0, .slice none 0 0, .string ⟨#[]⟩, .int .i64 0, .int .i64 0, .int .i64 0] 28)) (some b)) := grown_belowS (grown_selfS w _) bA
  have hne : ∀ {k : Nat}, some (3 : Nat) ≠ some b := fun e => hmb (by injection e)
  clear h bA e1 e2 e3 hA hB fB f0 f2 f3 d0 l1 l2 l3 d1 d2 lK
  go_enter Tryz.func35, Tryz.ntmps35
  generalize hwA : w.alloc (.cells #[.string ⟨#[]⟩, .slice none 0 0, .int .i64 0, .slice none 0 0, .string ⟨#[]⟩, .int .i64 0, .int .i64 0, .int .i64 0] 28) = wA at ZX0 SA mA GA
  go_wp2_with fail
  refine (c1 _ SA mA).mono ?_
  rintro e w1 ⟨rfl, S1, q1⟩
  have Z1 : Hid (ObB w1 w.heap.size noO (.slice none 0 0) (.slice none 0 0)) := ZX0.out.by q1 (by omega)
  have m1 := q1.cell mA (@hne 0)
  have G1 : Hid (w.grownBy w1 (some b)) := GA.out.trans q1
  clear ZX0 SA mA GA q1 c1 hwA
  go_wp2_with fail
  refine (c2 _ S1 m1).mono ?_
  rintro e w2 ⟨rfl, o2, S2, q2⟩
  have Z2 : Hid (ObB w2 w.heap.size noO (.slice none 0 0) (.slice none 0 0)) := Z1.out.by q2 (by omega)
  have m2 := q2.cell m1 (@hne 0)
  have G2 : Hid (w.grownBy w2 (some b)) := G1.out.trans q2
  have hw1 : w.heap.size ≤ w1.heap.size := G1.out.size
  have O2 : Hid (OwnsNu w2 w1.heap.size (.slice (some ⟨w1.heap.size, 0, none⟩) 3 3) [a0, a1, a2]) := o2
  clear Z1 S1 m1 G1 q2 c2 o2
  generalize w1.heap.size = g1 at hw1 O2
  go_wp2_with fail
  refine (c3 _ S2 m2).mono ?_
  rintro e w3 ⟨rfl, o3, S3, q3⟩
  have Z3 : Hid (ObB w3 w.heap.size noO (.slice none 0 0) (.slice none 0 0)) := Z2.out.by q3 (by omega)
  have m3 := q3.cell m2 (@hne 0)
  have G3 : Hid (w.grownBy w3 (some b)) := G2.out.trans q3
  have O3 : Hid (OwnsNu w3 g1 (.slice (some ⟨g1, 0, none⟩) 3 3) [a0, a1, a2]) := O2.out.by q3 (by omega)
  have hw2 : w.heap.size ≤ w2.heap.size := G2.out.size
  have C3 : Hid (OwnsNu w3 w2.heap.size (.slice (some ⟨w2.heap.size, 0, none⟩) 4 4) [(n0 : Int), b1, (n2 : Int), (n3 : Int)]) := o3
  clear Z2 S2 m2 G2 q3 c3 o3 O2
  generalize w2.heap.size = g2' at hw2 C3
  have x0 := ownsNu_at C3.out 0 (by simp)
  simp only [List.getElem_cons_zero] at x0
  go_wp2_with fail
  refine (implFldsS b t k3 n0 m w3 S3 hk3 ht g0 m3 hmb).mono ?_
  rintro e w4 ⟨p, l, k4, rfl, F4⟩
  have Z4 : Hid (ObB w4 w.heap.size noO (.slice none 0 0) (.slice none 0 0)) := Z3.out.by F4.gr (by omega)
  have m4 := F4.gr.cell m3 (@hne 0)
  have G4 : Hid (w.grownBy w4 (some b)) := G3.out.trans F4.gr
  have O4 : Hid (OwnsNu w4 g1 (.slice (some ⟨g1, 0, none⟩) 3 3) [a0, a1, a2]) := O3.out.by F4.gr (by omega)
  have C4 : Hid (OwnsNu w4 g2' (.slice (some ⟨g2', 0, none⟩) 4 4) [(n0 : Int), b1, (n2 : Int), (n3 : Int)]) := C3.out.by F4.gr (by omega)
  have hw3 : w.heap.size ≤ w3.heap.size := G3.out.size
  have hk4 := F4.le
  have hz3 : w.heap.size < w3.heap.size := Z3.out.hi
  clear Z3 S3 m3 G3 O3 C3 x0
  have x0 := ownsNu_at C4.out 2 (by simp)
  simp only [List.getElem_cons_zero, List.getElem_cons_succ] at x0
  go_wp2_with fail
  refine (implFldsS b t k4 n2 m w4 F4.rd hk4 ht g2 m4 hmb).mono ?_
  rintro e w5 ⟨u, mm, k5, rfl, F5⟩
  have Z5 : Hid (ObB w5 w.heap.size noO (.slice none 0 0) (.slice none 0 0)) := Z4.out.by F5.gr (by omega)
  have G5 : Hid (w.grownBy w5 (some b)) := G4.out.trans F5.gr
  have O5 : Hid (OwnsNu w5 g1 (.slice (some ⟨g1, 0, none⟩) 3 3) [a0, a1, a2]) := O4.out.by F5.gr (by omega)
  have C5 : Hid (OwnsNu w5 g2' (.slice (some ⟨g2', 0, none⟩) 4 4) [(n0 : Int), b1, (n2 : Int), (n3 : Int)]) := C4.out.by F5.gr (by omega)
  have HP5 : Hid (HasF w5 w3.heap.size p l) := F4.has.by F5.gr (by omega)
  have HPU : Hid (∀ k, p.ownBlock = some k → k < w4.heap.size) := F4.has.under
  have hw4 : w.heap.size ≤ w4.heap.size := G4.out.size
  have hk5 := F5.le
  clear Z4 m4 G4 O4 C4 x0
  have x0 := ownsNu_at C5.out 3 (by simp)
  simp only [List.getElem_cons_zero, List.getElem_cons_succ] at x0
  go_wp2_with fail
  refine (implPcD b t k5 n3 _ rfl hk5 ht w5 F5.rd).mono ?_
  rintro e w6 ⟨Y, rfl, hY, lY, q6⟩
  have Z6 : Hid (ObB w6 w.heap.size noO (.slice none 0 0) (.slice none 0 0)) := Z5.out.by q6 (by omega)
  have G6 : Hid (w.grownBy w6 (some b)) := G5.out.trans q6
  have O6 := O5.out.by q6 (by omega)
  have C6 := C5.out.by q6 (by omega)
  have HP6 : Hid (HasF w6 w3.heap.size p l) := HP5.out.by q6 (by omega)
  have HU6 : Hid (HasF w6 w4.heap.size u mm) := F5.has.by q6 (by omega)
  have y0 := ownsNu_at O6 0 (by simp)
  have y1 := ownsNu_at O6 1 (by simp)
  have y2 := ownsNu_at O6 2 (by simp)
  have y3 := ownsNu_at C6 1 (by simp)
  simp only [List.getElem_cons_zero, List.getElem_cons_succ] at y0 y1 y2 y3
  obtain ⟨pa, pc, hpv, _⟩ := HP6.out.form
  subst hpv
  obtain ⟨ua, uc, huv, _⟩ := HU6.out.form
  subst huv
  have F4is := F4.is
  rw [d3] at F4is
  have HO : Hid (ObG w (putL w6 w.heap.size (obL (⟨txtL K, l, ⟨b1, mm, txtL Y⟩, a0, a1, a2⟩ : Ob) (.slice pa l.length pc) (.slice ua mm.length uc)) 0) b t (⟨txtL K, l, ⟨b1, mm, txtL Y⟩, a0, a1, a2⟩ : Ob) (.slice pa l.length pc) (.slice ua mm.length uc)) := by
    have hgp := grown_putL (grown_selfS w6 (some w.heap.size)) (obL (⟨txtL K, l, ⟨b1, mm, txtL Y⟩, a0, a1, a2⟩ : Ob) (.slice pa l.length pc) (.slice ua mm.length uc)) 0
    refine ⟨HIS.out l _ mm _ Y F4is F5.is hY, (HP6.out.by hgp hz3).low hw3, (HU6.out.by hgp (by have := F4.gr.size; omega)).low hw4, fun g h1 h2 => ?_, F4.sz, F5.sz, F4.ln, F5.ln, hKs, by show (txtL Y).size ≤ _; rw [txt_len]; exact lY, ?_⟩
    · have := HPU.out g h1
      have := HU6.out.from g h2
      omega
    · exact ⟨hgp.os.trans G6.out.os, hgp.tape.trans G6.out.tape, hgp.output.trans G6.out.output, Nat.le_trans G6.out.size hgp.size, fun j hj hne => (hgp.block j (Nat.lt_of_lt_of_le hj G6.out.size) (fun e => by injection e with e; omega)).trans (G6.out.block j hj hne)⟩
  have HPT : Hid (ObB (putL w6 w.heap.size (obL (⟨txtL K, l, ⟨b1, mm, txtL Y⟩, a0, a1, a2⟩ : Ob) (.slice pa l.length pc) (.slice ua mm.length uc)) 0) w.heap.size (⟨txtL K, l, ⟨b1, mm, txtL Y⟩, a0, a1, a2⟩ : Ob) (.slice pa l.length pc) (.slice ua mm.length uc)) := Z6.out.puts _ _ _
  obtain ⟨z0, z1, z2, z3, z4, z5, z6, z7, zf, zh⟩ := Z6.out
  simp only [noO, noS] at z0 z1 z2 z3 z4 z5 z6 z7
  clear F4 F5 F4is hY q6 Z5 Z6 G5 G6 O5 C5 O6 C6 HP5 HP6 HU6 HPU HIS x0
  go_wp2_with fail
  go_region
  clear y0 y1 y2 y3 z0 z1 z2 z3 z4 z5 z6 z7 zf zh
  refine then_gen ?_
  intro WF hWF
  have hl : Below (putL w6 w.heap.size (obL (⟨txtL K, l, ⟨b1, mm, txtL Y⟩, a0, a1, a2⟩ : Ob) (.slice pa l.length pc) (.slice ua mm.length uc)) 0).heap.size (putL w6 w.heap.size (obL (⟨txtL K, l, ⟨b1, mm, txtL Y⟩, a0, a1, a2⟩ : Ob) (.slice pa l.length pc) (.slice ua mm.length uc)) 0) WF := by
    rw [hWF]
    exact below_drewS _
  have ho := HO.out.kept hl
  obtain ⟨p0, p1, p2, p3, p4, p5, p6, p7, pf, ph⟩ := HPT.out.next hl
  have HOO : Hid (ObG w WF b t _ _ _) := ho
  clear hWF hl HO HPT ho
  simp only at p0 p1 p2 p3 p4 p5 p6 p7
  go_wp2
  refine bodyPost_ret (v := obV (⟨txtL K, l, ⟨b1, mm, txtL Y⟩, a0, a1, a2⟩ : Ob) (.slice pa l.length pc) (.slice ua mm.length uc)) (by unfold obV; simp [results, Tryz.results35, go_sem, p0, p1, p2, p3, p4, p5, p6, p7]) rfl ⟨_, _, _, rfl, HOO.out⟩
end Go.Proofs.YtemmgfnepdgpbaaGreatDoor
namespace Go.Proofs.YtemmgfnepdgpbaaGreatDoor
open Go.RowKit Go.Sort St
set_option linter.unusedVariables false

/-- The library's table of powers of ten lies as its text lays it. -/
def TabS (w : World) : Prop := Lib.TabIs Tryz.prog w "internal/strconv.uint64pow10" .u64 Lib.pow10Tab
theorem gPowS : Tryz.prog.globalNamed "internal/strconv.uint64pow10" = some 2 := by kernel_rfl
theorem TabS.low {w w' : World} (h : TabS w) (hb : Below w.heap.size w w') : TabS w' := Go.Joins.tab_stays gPowS h hb (Nat.le_refl _)
theorem low_growS (w : World) (k : Nat) (os : Array Obj) : Below w.heap.size w (grow (w.drewN k) os) :=
  ⟨rfl, rfl, rfl, by simp [grow], fun j hj => by simp only [grow]; exact Array.getElem?_append_left hj⟩
theorem fmtD (n : Int) (hn : few n) (w : World) (ht : TabS w) :
    Calls Tryz.prog 62 #[.int .i64 n, .int .i64 10] w fun e w' => e = .returned (.string (txtL (dd n))) ∧ Below w.heap.size w w' := by
  obtain ⟨h0, h1⟩ := hn
  have e : (⟨(Lib.itoa n).toArray⟩ : ByteArray) = txtL (dd n) := by unfold Lib.itoa dd txtL; rw [if_neg (by omega)]
  rw [← e]
  exact (Tryz.formatInt n (by omega) (by omega) w ht).mono fun e w' ⟨h1, k, os, h2⟩ => ⟨h1, by rw [h2]; exact low_growS w k os⟩
end Go.Proofs.YtemmgfnepdgpbaaGreatDoor

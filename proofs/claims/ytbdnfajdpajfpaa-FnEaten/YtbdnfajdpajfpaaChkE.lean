/-
  The program's reading of chunks under way: its block, and what each of its methods does to it.
-/
import Derived.Test.YtbdnfajdpajfpaaRow5
import Derived.Test.YtbdnfajdpajfpaaChkP
import Derived.Test.YtbdnfajdpajfpaaNum
namespace Go.Proofs.Ytbdnfajdpajfpaa
open Go.RowKit

/-- The blocks of S are kept. -/
def Kp (S : Nat → Prop) (w w' : World) : Prop := w'.os = w.os ∧ w'.tape = w.tape ∧ w'.output = w.output ∧ w.heap.size ≤ w'.heap.size ∧ ∀ k, S k → w'.heap[k]? = w.heap[k]?
theorem Kp.trans {S : Nat → Prop} {w w' w'' : World} (h : Kp S w w') (h' : Kp S w' w'') : Kp S w w'' :=
  ⟨h'.1.trans h.1, h'.2.1.trans h.2.1, h'.2.2.1.trans h.2.2.1, Nat.le_trans h.2.2.2.1 h'.2.2.2.1, fun k hk => (h'.2.2.2.2 k hk).trans (h.2.2.2.2 k hk)⟩
theorem Kp.refl (S : Nat → Prop) (w : World) : Kp S w w := ⟨rfl, rfl, rfl, Nat.le_refl _, fun _ _ => rfl⟩
/-- A reading under way in block b, in the state c; no block of S is one of its own. -/
structure EtrV (w : World) (S : Nat → Prop) (b : Nat) (c : Ck) (vd vb : Value) : Prop where
  c0 : w.cell? ⟨b, 0, none⟩ = some (.int .i64 c.st)
  c1 : w.cell? ⟨b, 1, none⟩ = some (.int .i64 c.lf)
  c2 : w.cell? ⟨b, 2, none⟩ = some vd
  c3 : w.cell? ⟨b, 3, none⟩ = some vb
  od : OwnsC w 0 vd c.dg.data.toList
  ob : OwnsC w 0 vb c.bd.data.toList
  nd : some b ≠ vd.ownBlock
  nb : some b ≠ vb.ownBlock
  ne : vd.ownBlock = none ∨ vd.ownBlock ≠ vb.ownBlock
  fz : ∀ k, w.frozen? ⟨b, k, none⟩ = false
  lo : ¬ S b
  sd : ∀ k, vd.ownBlock = some k → ¬ S k
  sb : ∀ k, vb.ownBlock = some k → ¬ S k
  sz : ∀ k, S k → k < w.heap.size
  hi : b < w.heap.size
def Etr (w : World) (S : Nat → Prop) (b : Nat) (c : Ck) : Prop := ∃ vd vb, EtrV w S b c vd vb

theorem OwnsC.set {w : World} {b : Nat} {v : Value} {l : List UInt8} (h : OwnsC w 0 v l) (hb : some b ≠ v.ownBlock) (k : Nat) (u : Value) : OwnsC (w.setCell ⟨b, k, none⟩ u) 0 v l :=
  h.kept fun j hj => Below.heap_setCell w ⟨b, k, none⟩ u j (fun e => hb (by rw [hj]; exact congrArg some (Eq.symm e)))
theorem EtrV.st {w : World} {S : Nat → Prop} {b : Nat} {c : Ck} {vd vb : Value} (h : EtrV w S b c vd vb) (s : Int) : EtrV (w.setCell ⟨b, 0, none⟩ (.int .i64 s)) S b ⟨s, c.lf, c.dg, c.bd⟩ vd vb where
  c0 := World.cell?_setCell_same _ _ _ h.c0
  c1 := (World.cell?_setCell_other _ _ _ _ (by simp)).trans h.c1
  c2 := (World.cell?_setCell_other _ _ _ _ (by simp)).trans h.c2
  c3 := (World.cell?_setCell_other _ _ _ _ (by simp)).trans h.c3
  od := h.od.set h.nd _ _
  ob := h.ob.set h.nb _ _
  nd := h.nd
  nb := h.nb
  ne := h.ne
  fz := fun k => by rw [World.frozen?_setCell]; exact h.fz k
  lo := h.lo
  sd := h.sd
  sb := h.sb
  sz := fun k hk => by rw [World.size_setCell]; exact h.sz k hk
  hi := by rw [World.size_setCell]; exact h.hi
theorem EtrV.lf {w : World} {S : Nat → Prop} {b : Nat} {c : Ck} {vd vb : Value} (h : EtrV w S b c vd vb) (s : Int) : EtrV (w.setCell ⟨b, 1, none⟩ (.int .i64 s)) S b ⟨c.st, s, c.dg, c.bd⟩ vd vb where
  c0 := (World.cell?_setCell_other _ _ _ _ (by simp)).trans h.c0
  c1 := World.cell?_setCell_same _ _ _ h.c1
  c2 := (World.cell?_setCell_other _ _ _ _ (by simp)).trans h.c2
  c3 := (World.cell?_setCell_other _ _ _ _ (by simp)).trans h.c3
  od := h.od.set h.nd _ _
  ob := h.ob.set h.nb _ _
  nd := h.nd
  nb := h.nb
  ne := h.ne
  fz := fun k => by rw [World.frozen?_setCell]; exact h.fz k
  lo := h.lo
  sd := h.sd
  sb := h.sb
  sz := fun k hk => by rw [World.size_setCell]; exact h.sz k hk
  hi := by rw [World.size_setCell]; exact h.hi
theorem EtrV.dg0 {w : World} {S : Nat → Prop} {b : Nat} {c : Ck} {vd vb : Value} (h : EtrV w S b c vd vb) : EtrV (w.setCell ⟨b, 2, none⟩ (.slice none 0 0)) S b ⟨c.st, c.lf, ⟨#[]⟩, c.bd⟩ (.slice none 0 0) vb where
  c0 := (World.cell?_setCell_other _ _ _ _ (by simp)).trans h.c0
  c1 := (World.cell?_setCell_other _ _ _ _ (by simp)).trans h.c1
  c2 := World.cell?_setCell_same _ _ _ h.c2
  c3 := (World.cell?_setCell_other _ _ _ _ (by simp)).trans h.c3
  od := OwnsC.nil _ _
  ob := h.ob.set h.nb _ _
  nd := by simp [Value.ownBlock]
  nb := h.nb
  ne := .inl rfl
  fz := fun k => by rw [World.frozen?_setCell]; exact h.fz k
  lo := h.lo
  sd := fun k hk => by simp [Value.ownBlock] at hk
  sb := h.sb
  sz := fun k hk => by rw [World.size_setCell]; exact h.sz k hk
  hi := by rw [World.size_setCell]; exact h.hi
theorem Kp.set {S : Nat → Prop} {w : World} {b k : Nat} (h : ¬ S b) (v : Value) : Kp S w (w.setCell ⟨b, k, none⟩ v) := by
  have hb := (Below.refl b w).setCell (show b ≤ (⟨b, k, none⟩ : Addr).block from Nat.le_refl _) v
  exact ⟨hb.os, hb.tape, hb.output, hb.size, fun j hj => Below.heap_setCell w ⟨b, k, none⟩ v j (fun e => h (by rw [← show j = b from e]; exact hj))⟩
theorem Kp.grown {S : Nat → Prop} {w w' : World} {r : Option Nat} (h : w.grownBy w' r) (hr : ∀ k, r = some k → ¬ S k) (hS : ∀ k, S k → k < w.heap.size) : Kp S w w' :=
  ⟨h.os, h.tape, h.output, h.size, fun k hk => h.block k (hS k hk) (fun e => hr k e.symm hk)⟩
theorem Kp.of {S : Nat → Prop} {w w' : World} (h : Below w.heap.size w w') (hS : ∀ k, S k → k < w.heap.size) : Kp S w w' :=
  ⟨h.os, h.tape, h.output, h.size, fun k hk => h.block k (hS k hk)⟩
theorem Kp.below {n : Nat} {w w' : World} (h : Kp (fun k => k < n) w w') : Below n w w' := ⟨h.1, h.2.1, h.2.2.1, h.2.2.2.1, h.2.2.2.2⟩
theorem Kp.less {S T : Nat → Prop} {w w' : World} (h : Kp S w w') (hT : ∀ k, T k → S k) : Kp T w w' := ⟨h.1, h.2.1, h.2.2.1, h.2.2.2.1, fun k hk => h.2.2.2.2 k (hT k hk)⟩
theorem EtrV.dgPush {w w2 : World} {S : Nat → Prop} {b : Nat} {c : Ck} {vd vb v2 : Value} {x : UInt8} (h : EtrV w S b c vd vb) (h1 : OwnsC w2 0 v2 (c.dg.data.toList ++ [x])) (h2 : w.grownBy w2 vd.ownBlock) (h3 : v2.ownBlock = vd.ownBlock ∨ v2.ownBlock = some (w.heap.size + 1)) :
    EtrV (w2.setCell ⟨b, 2, none⟩ v2) S b ⟨c.st, c.lf, c.dg ++ ⟨#[x]⟩, c.bd⟩ v2 vb := by
  have hbl := h2.block b h.hi h.nd
  have hbd : OwnsC w2 0 vb c.bd.data.toList := h.ob.kept fun k hk => h2.block k (h.ob.lt k hk).2 (fun e => by
    rcases h.ne with h' | h'
    · rw [h'] at e; cases e
    · exact h' (e.symm.trans hk.symm))
  have nd2 : some b ≠ v2.ownBlock := by
    rcases h3 with h3 | h3
    · rw [h3]; exact h.nd
    · rw [h3]; intro e; have := Option.some.inj e; have := h.hi; omega
  have cell : ∀ k, w2.cell? ⟨b, k, none⟩ = w.cell? ⟨b, k, none⟩ := fun k => World.cell?_of_block (a := ⟨b, k, none⟩) hbl
  exact {
    c0 := (World.cell?_setCell_other _ _ _ _ (by simp)).trans ((cell 0).trans h.c0)
    c1 := (World.cell?_setCell_other _ _ _ _ (by simp)).trans ((cell 1).trans h.c1)
    c2 := World.cell?_setCell_same _ _ _ ((cell 2).trans h.c2)
    c3 := (World.cell?_setCell_other _ _ _ _ (by simp)).trans ((cell 3).trans h.c3)
    od := by rw [add_list]; exact h1.set nd2 _ _
    ob := hbd.set h.nb _ _
    nd := nd2
    nb := h.nb
    ne := by
      rcases h3 with h3 | h3
      · rw [h3]; exact h.ne
      · right; rw [h3]; intro e; have := (h.ob.lt _ e.symm).2; omega
    fz := fun k => by rw [World.frozen?_setCell, World.frozen?_of_block (a := ⟨b, k, none⟩) hbl]; exact h.fz k
    lo := h.lo
    sd := fun k hk => by
      rcases h3 with h3 | h3
      · exact h.sd k (h3.symm.trans hk)
      · intro hs
        have := h.sz k hs
        rw [h3] at hk
        have := Option.some.inj hk
        omega
    sb := h.sb
    sz := fun k hk => by rw [World.size_setCell]; exact Nat.lt_of_lt_of_le (h.sz k hk) h2.size
    hi := by rw [World.size_setCell]; exact Nat.lt_of_lt_of_le h.hi h2.size }
theorem EtrV.bdPush {w w2 : World} {S : Nat → Prop} {b : Nat} {c : Ck} {vd vb v2 : Value} {x : UInt8} (h : EtrV w S b c vd vb) (h1 : OwnsC w2 0 v2 (c.bd.data.toList ++ [x])) (h2 : w.grownBy w2 vb.ownBlock) (h3 : v2.ownBlock = vb.ownBlock ∨ v2.ownBlock = some (w.heap.size + 1)) :
    EtrV (w2.setCell ⟨b, 3, none⟩ v2) S b ⟨c.st, c.lf, c.dg, c.bd ++ ⟨#[x]⟩⟩ vd v2 := by
  have hbl := h2.block b h.hi h.nb
  have hdg : OwnsC w2 0 vd c.dg.data.toList := h.od.kept fun k hk => h2.block k (h.od.lt k hk).2 (fun e => by
    rcases h.ne with h' | h'
    · rw [h'] at hk; cases hk
    · exact h' (hk.trans e))
  have nb2 : some b ≠ v2.ownBlock := by
    rcases h3 with h3 | h3
    · rw [h3]; exact h.nb
    · rw [h3]; intro e; have := Option.some.inj e; have := h.hi; omega
  have cell : ∀ k, w2.cell? ⟨b, k, none⟩ = w.cell? ⟨b, k, none⟩ := fun k => World.cell?_of_block (a := ⟨b, k, none⟩) hbl
  exact {
    c0 := (World.cell?_setCell_other _ _ _ _ (by simp)).trans ((cell 0).trans h.c0)
    c1 := (World.cell?_setCell_other _ _ _ _ (by simp)).trans ((cell 1).trans h.c1)
    c2 := (World.cell?_setCell_other _ _ _ _ (by simp)).trans ((cell 2).trans h.c2)
    c3 := World.cell?_setCell_same _ _ _ ((cell 3).trans h.c3)
    od := hdg.set h.nd _ _
    ob := by rw [add_list]; exact h1.set nb2 _ _
    nd := h.nd
    nb := nb2
    ne := by
      rcases h3 with h3 | h3
      · rw [h3]; exact h.ne
      · rcases h.ne with h' | h'
        · exact .inl h'
        · right; rw [h3]; intro e; have := (h.od.lt _ e).2; omega
    fz := fun k => by rw [World.frozen?_setCell, World.frozen?_of_block (a := ⟨b, k, none⟩) hbl]; exact h.fz k
    lo := h.lo
    sb := fun k hk => by
      rcases h3 with h3 | h3
      · exact h.sb k (h3.symm.trans hk)
      · intro hs
        have := h.sz k hs
        rw [h3] at hk
        have := Option.some.inj hk
        omega
    sd := h.sd
    sz := fun k hk => by rw [World.size_setCell]; exact Nat.lt_of_lt_of_le (h.sz k hk) h2.size
    hi := by rw [World.size_setCell]; exact Nat.lt_of_lt_of_le h.hi h2.size }

theorem ckSpoil (S : Nat → Prop) (b : Nat) (c : Ck) (w : World) (h : Etr w S b c) :
    Calls Try.prog 52 #[.pointer (some ⟨b, 0, none⟩)] w fun e w' => e = .returned (.tuple #[]) ∧ Etr w' S b (badC c) ∧ Kp S w w' := by
  obtain ⟨vd, vb, hv⟩ := h
  have h1 := hv.st 9
  have h2 := h1.lf 0
  have h3 := h2.dg0
  have hc0 := hv.c0
  have hc1 := h1.c1
  have hc2 := h2.c2
  have hf := hv.fz
  have H3 : Hid _ := h3
  have HL : Hid (¬ S b) := hv.lo
  clear h1 h2 h3 hv
  go_enter Try.func52, Try.ntmps52
  go_wp2
  first | (refine bodyPost_ret (results_none rfl _ _ _) rfl ?_) | (refine bodyPost_end (results_none rfl _ _ _) rfl ?_)
  exact ⟨rfl, ⟨_, _, H3.out⟩, ((Kp.set HL.out _).trans (Kp.set HL.out _)).trans (Kp.set HL.out _)⟩
end Go.Proofs.Ytbdnfajdpajfpaa

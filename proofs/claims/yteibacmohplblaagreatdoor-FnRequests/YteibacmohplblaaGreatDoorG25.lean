/-
  The program's reading of chunks under way: its block, and what each of its methods does to it.
  The states of the program's reading of chunks, each by its contract.
  The states of the program's reading of chunks that take a size or a byte of the body, each by its contract.
-/
import Derived.Test.YteibacmohplblaaGreatDoorG24
import Derived.Test.YteibacmohplblaaGreatDoorG07
import Derived.Test.YteibacmohplblaaGreatDoorG11
namespace Go.Proofs.YteibacmohplblaaGreatDoor
open Go.RowKit

/-- The blocks of S are kept. -/
def Kp (S : Nat → Prop) (w w' : World) : Prop := w'.os = w.os ∧ w'.tape = w.tape ∧ w'.output = w.output ∧ w.heap.size ≤ w'.heap.size ∧ ∀ k, S k → w'.heap[k]? = w.heap[k]?
theorem Kp.trans {S : Nat → Prop} {w w' w'' : World} (h : Kp S w w') (h' : Kp S w' w'') : Kp S w w'' :=
  ⟨h'.1.trans h.1, h'.2.1.trans h.2.1, h'.2.2.1.trans h.2.2.1, Nat.le_trans h.2.2.2.1 h'.2.2.2.1, fun k hk => (h'.2.2.2.2 k hk).trans (h.2.2.2.2 k hk)⟩
theorem Kp.refl (S : Nat → Prop) (w : World) : Kp S w w := ⟨rfl, rfl, rfl, Nat.le_refl _, fun _ _ => rfl⟩
/-- A reading under way in block b, in the state c; no block of S is one of its own. -/
structure EtrV (w : World) (S : Nat → Prop) (b : Nat) (c : Ck) (vd vb : Value) : Prop where
  c0 : w.cell? ⟨b, 0, none⟩ = some (.int .i64 c.st)
  c1 : w.cell? ⟨b, 1, none⟩ = some (.int .i64 c.lf)
  c2 : w.cell? ⟨b, 2, none⟩ = some vd
  c3 : w.cell? ⟨b, 3, none⟩ = some vb
  od : OwnsC w 0 vd c.dg.data.toList
  ob : OwnsC w 0 vb c.bd.data.toList
  nd : some b ≠ vd.ownBlock
  nb : some b ≠ vb.ownBlock
  ne : vd.ownBlock = none ∨ vd.ownBlock ≠ vb.ownBlock
  fz : ∀ k, w.frozen? ⟨b, k, none⟩ = false
  lo : ¬ S b
  sd : ∀ k, vd.ownBlock = some k → ¬ S k
  sb : ∀ k, vb.ownBlock = some k → ¬ S k
  sz : ∀ k, S k → k < w.heap.size
  hi : b < w.heap.size
def Etr (w : World) (S : Nat → Prop) (b : Nat) (c : Ck) : Prop := ∃ vd vb, EtrV w S b c vd vb

theorem OwnsC.set {w : World} {b : Nat} {v : Value} {l : List UInt8} (h : OwnsC w 0 v l) (hb : some b ≠ v.ownBlock) (k : Nat) (u : Value) : OwnsC (w.setCell ⟨b, k, none⟩ u) 0 v l :=
  h.kept fun j hj => Below.heap_setCell w ⟨b, k, none⟩ u j (fun e => hb (by rw [hj]; exact congrArg some (Eq.symm e)))
theorem EtrV.st {w : World} {S : Nat → Prop} {b : Nat} {c : Ck} {vd vb : Value} (h : EtrV w S b c vd vb) (s : Int) : EtrV (w.setCell ⟨b, 0, none⟩ (.int .i64 s)) S b ⟨s, c.lf, c.dg, c.bd⟩ vd vb where
  c0 := World.cell?_setCell_same _ _ _ h.c0
  c1 := (World.cell?_setCell_other _ _ _ _ (by simp)).trans h.c1
  c2 := (World.cell?_setCell_other _ _ _ _ (by simp)).trans h.c2
  c3 := (World.cell?_setCell_other _ _ _ _ (by simp)).trans h.c3
  od := h.od.set h.nd _ _
  ob := h.ob.set h.nb _ _
  nd := h.nd
  nb := h.nb
  ne := h.ne
  fz := fun k => by rw [World.frozen?_setCell]; exact h.fz k
  lo := h.lo
  sd := h.sd
  sb := h.sb
  sz := fun k hk => by rw [World.size_setCell]; exact h.sz k hk
  hi := by rw [World.size_setCell]; exact h.hi
theorem EtrV.lf {w : World} {S : Nat → Prop} {b : Nat} {c : Ck} {vd vb : Value} (h : EtrV w S b c vd vb) (s : Int) : EtrV (w.setCell ⟨b, 1, none⟩ (.int .i64 s)) S b ⟨c.st, s, c.dg, c.bd⟩ vd vb where
  c0 := (World.cell?_setCell_other _ _ _ _ (by simp)).trans h.c0
  c1 := World.cell?_setCell_same _ _ _ h.c1
  c2 := (World.cell?_setCell_other _ _ _ _ (by simp)).trans h.c2
  c3 := (World.cell?_setCell_other _ _ _ _ (by simp)).trans h.c3
  od := h.od.set h.nd _ _
  ob := h.ob.set h.nb _ _
  nd := h.nd
  nb := h.nb
  ne := h.ne
  fz := fun k => by rw [World.frozen?_setCell]; exact h.fz k
  lo := h.lo
  sd := h.sd
  sb := h.sb
  sz := fun k hk => by rw [World.size_setCell]; exact h.sz k hk
  hi := by rw [World.size_setCell]; exact h.hi
theorem EtrV.dg0 {w : World} {S : Nat → Prop} {b : Nat} {c : Ck} {vd vb : Value} (h : EtrV w S b c vd vb) : EtrV (w.setCell ⟨b, 2, none⟩ (.slice none 0 0)) S b ⟨c.st, c.lf, ⟨#[]⟩, c.bd⟩ (.slice none 0 0) vb where
  c0 := (World.cell?_setCell_other _ _ _ _ (by simp)).trans h.c0
  c1 := (World.cell?_setCell_other _ _ _ _ (by simp)).trans h.c1
  c2 := World.cell?_setCell_same _ _ _ h.c2
  c3 := (World.cell?_setCell_other _ _ _ _ (by simp)).trans h.c3
  od := OwnsC.nil _ _
  ob := h.ob.set h.nb _ _
  nd := by simp [Value.ownBlock]
  nb := h.nb
  ne := .inl rfl
  fz := fun k => by rw [World.frozen?_setCell]; exact h.fz k
  lo := h.lo
  sd := fun k hk => by simp [Value.ownBlock] at hk
  sb := h.sb
  sz := fun k hk => by rw [World.size_setCell]; exact h.sz k hk
  hi := by rw [World.size_setCell]; exact h.hi
theorem Kp.set {S : Nat → Prop} {w : World} {b k : Nat} (h : ¬ S b) (v : Value) : Kp S w (w.setCell ⟨b, k, none⟩ v) := by
  have hb := (Below.refl b w).setCell (show b ≤ (⟨b, k, none⟩ : Addr).block from Nat.le_refl _) v
  exact ⟨hb.os, hb.tape, hb.output, hb.size, fun j hj => Below.heap_setCell w ⟨b, k, none⟩ v j (fun e => h (by rw [← show j = b from e]; exact hj))⟩
theorem Kp.grown {S : Nat → Prop} {w w' : World} {r : Option Nat} (h : w.grownBy w' r) (hr : ∀ k, r = some k → ¬ S k) (hS : ∀ k, S k → k < w.heap.size) : Kp S w w' :=
  ⟨h.os, h.tape, h.output, h.size, fun k hk => h.block k (hS k hk) (fun e => hr k e.symm hk)⟩
theorem Kp.of {S : Nat → Prop} {w w' : World} (h : Below w.heap.size w w') (hS : ∀ k, S k → k < w.heap.size) : Kp S w w' :=
  ⟨h.os, h.tape, h.output, h.size, fun k hk => h.block k (hS k hk)⟩
theorem Kp.below {n : Nat} {w w' : World} (h : Kp (fun k => k < n) w w') : Below n w w' := ⟨h.1, h.2.1, h.2.2.1, h.2.2.2.1, h.2.2.2.2⟩
theorem Kp.less {S T : Nat → Prop} {w w' : World} (h : Kp S w w') (hT : ∀ k, T k → S k) : Kp T w w' := ⟨h.1, h.2.1, h.2.2.1, h.2.2.2.1, fun k hk => h.2.2.2.2 k (hT k hk)⟩
theorem EtrV.dgPush {w w2 : World} {S : Nat → Prop} {b : Nat} {c : Ck} {vd vb v2 : Value} {x : UInt8} (h : EtrV w S b c vd vb) (h1 : OwnsC w2 0 v2 (c.dg.data.toList ++ [x])) (h2 : w.grownBy w2 vd.ownBlock) (h3 : v2.ownBlock = vd.ownBlock ∨ v2.ownBlock = some (w.heap.size + 1)) :
    EtrV (w2.setCell ⟨b, 2, none⟩ v2) S b ⟨c.st, c.lf, c.dg ++ ⟨#[x]⟩, c.bd⟩ v2 vb := by
  have hbl := h2.block b h.hi h.nd
  have hbd : OwnsC w2 0 vb c.bd.data.toList := h.ob.kept fun k hk => h2.block k (h.ob.lt k hk).2 (fun e => by
    rcases h.ne with h' | h'
    · rw [h'] at e; cases e
    · exact h' (e.symm.trans hk.symm))
  have nd2 : some b ≠ v2.ownBlock := by
    rcases h3 with h3 | h3
    · rw [h3]; exact h.nd
    · rw [h3]; intro e; have := Option.some.inj e; have := h.hi; omega
  have cell : ∀ k, w2.cell? ⟨b, k, none⟩ = w.cell? ⟨b, k, none⟩ := fun k => World.cell?_of_block (a := ⟨b, k, none⟩) hbl
  exact {
    c0 := (World.cell?_setCell_other _ _ _ _ (by simp)).trans ((cell 0).trans h.c0)
    c1 := (World.cell?_setCell_other _ _ _ _ (by simp)).trans ((cell 1).trans h.c1)
    c2 := World.cell?_setCell_same _ _ _ ((cell 2).trans h.c2)
    c3 := (World.cell?_setCell_other _ _ _ _ (by simp)).trans ((cell 3).trans h.c3)
    od := by rw [add_list]; exact h1.set nd2 _ _
    ob := hbd.set h.nb _ _
    nd := nd2
    nb := h.nb
    ne := by
      rcases h3 with h3 | h3
      · rw [h3]; exact h.ne
      · right; rw [h3]; intro e; have := (h.ob.lt _ e.symm).2; omega
    fz := fun k => by rw [World.frozen?_setCell, World.frozen?_of_block (a := ⟨b, k, none⟩) hbl]; exact h.fz k
    lo := h.lo
    sd := fun k hk => by
      rcases h3 with h3 | h3
      · exact h.sd k (h3.symm.trans hk)
      · intro hs
        have := h.sz k hs
        rw [h3] at hk
        have := Option.some.inj hk
        omega
    sb := h.sb
    sz := fun k hk => by rw [World.size_setCell]; exact Nat.lt_of_lt_of_le (h.sz k hk) h2.size
    hi := by rw [World.size_setCell]; exact Nat.lt_of_lt_of_le h.hi h2.size }
theorem EtrV.bdPush {w w2 : World} {S : Nat → Prop} {b : Nat} {c : Ck} {vd vb v2 : Value} {x : UInt8} (h : EtrV w S b c vd vb) (h1 : OwnsC w2 0 v2 (c.bd.data.toList ++ [x])) (h2 : w.grownBy w2 vb.ownBlock) (h3 : v2.ownBlock = vb.ownBlock ∨ v2.ownBlock = some (w.heap.size + 1)) :
    EtrV (w2.setCell ⟨b, 3, none⟩ v2) S b ⟨c.st, c.lf, c.dg, c.bd ++ ⟨#[x]⟩⟩ vd v2 := by
  have hbl := h2.block b h.hi h.nb
  have hdg : OwnsC w2 0 vd c.dg.data.toList := h.od.kept fun k hk => h2.block k (h.od.lt k hk).2 (fun e => by
    rcases h.ne with h' | h'
    · rw [h'] at hk; cases hk
    · exact h' (hk.trans e))
  have nb2 : some b ≠ v2.ownBlock := by
    rcases h3 with h3 | h3
    · rw [h3]; exact h.nb
    · rw [h3]; intro e; have := Option.some.inj e; have := h.hi; omega
  have cell : ∀ k, w2.cell? ⟨b, k, none⟩ = w.cell? ⟨b, k, none⟩ := fun k => World.cell?_of_block (a := ⟨b, k, none⟩) hbl
  exact {
    c0 := (World.cell?_setCell_other _ _ _ _ (by simp)).trans ((cell 0).trans h.c0)
    c1 := (World.cell?_setCell_other _ _ _ _ (by simp)).trans ((cell 1).trans h.c1)
    c2 := (World.cell?_setCell_other _ _ _ _ (by simp)).trans ((cell 2).trans h.c2)
    c3 := World.cell?_setCell_same _ _ _ ((cell 3).trans h.c3)
    od := hdg.set h.nd _ _
    ob := by rw [add_list]; exact h1.set nb2 _ _
    nd := h.nd
    nb := nb2
    ne := by
      rcases h3 with h3 | h3
      · rw [h3]; exact h.ne
      · rcases h.ne with h' | h'
        · exact .inl h'
        · right; rw [h3]; intro e; have := (h.od.lt _ e).2; omega
    fz := fun k => by rw [World.frozen?_setCell, World.frozen?_of_block (a := ⟨b, k, none⟩) hbl]; exact h.fz k
    lo := h.lo
    sb := fun k hk => by
      rcases h3 with h3 | h3
      · exact h.sb k (h3.symm.trans hk)
      · intro hs
        have := h.sz k hs
        rw [h3] at hk
        have := Option.some.inj hk
        omega
    sd := h.sd
    sz := fun k hk => by rw [World.size_setCell]; exact Nat.lt_of_lt_of_le (h.sz k hk) h2.size
    hi := by rw [World.size_setCell]; exact Nat.lt_of_lt_of_le h.hi h2.size }

theorem ckSpoil (S : Nat → Prop) (b : Nat) (c : Ck) (w : World) (h : Etr w S b c) :
    Calls Tryz.prog 198 #[.pointer (some ⟨b, 0, none⟩)] w fun e w' => e = .returned (.tuple #[]) ∧ Etr w' S b (badC c) ∧ Kp S w w' := by
  obtain ⟨vd, vb, hv⟩ := h
  have h1 := hv.st 9
  have h2 := h1.lf 0
  have h3 := h2.dg0
  have hc0 := hv.c0
  have hc1 := h1.c1
  have hc2 := h2.c2
  have hf := hv.fz
  have H3 : Hid _ := h3
  have HL : Hid (¬ S b) := hv.lo
  clear h1 h2 h3 hv
  go_enter Tryz.func198, Tryz.ntmps198
  go_wp2
  first | (refine bodyPost_ret (results_none rfl _ _ _) rfl ?_) | (refine bodyPost_end (results_none rfl _ _ _) rfl ?_)
  exact ⟨rfl, ⟨_, _, H3.out⟩, ((Kp.set HL.out _).trans (Kp.set HL.out _)).trans (Kp.set HL.out _)⟩
end Go.Proofs.YteibacmohplblaaGreatDoor
namespace Go.Proofs.YteibacmohplblaaGreatDoor
open Go.RowKit

theorem byte_ne {x y : UInt8} (h : x ≠ y) : ¬ ((x.toNat : Int) = (y.toNat : Int)) := fun e => h (UInt8.toNat_inj.1 (by omega))
theorem byte_isC {x : UInt8} {n : Nat} (h : x.toNat = n) : ((x.toNat : Int) = (n : Int)) := by omega

theorem ckExpect (S : Nat → Prop) (b : Nat) (c : Ck) (x y : UInt8) (s : Int) (w : World) (h : Etr w S b c) :
    Calls Tryz.prog 199 #[.pointer (some ⟨b, 0, none⟩), .int .u8 (x.toNat : Int), .int .u8 (y.toNat : Int), .int .i64 s] w fun e w' => e = .returned (.tuple #[]) ∧ Etr w' S b (if x.toNat = y.toNat then ⟨s, c.lf, c.dg, c.bd⟩ else badC c) ∧ Kp S w w' := by
  by_cases hx : x.toNat = y.toNat
  · rw [if_pos hx]
    obtain ⟨vd, vb, hv⟩ := h
    have h1 := hv.st s
    have hc0 := hv.c0
    have hf := hv.fz
    have hx' : (x.toNat : Int) = (y.toNat : Int) := by omega
    have H1 : Hid _ := h1
    have HL : Hid (¬ S b) := hv.lo
    clear h1 hv hx
    go_enter Tryz.func199, Tryz.ntmps199
    go_wp2
    first | (refine bodyPost_ret (results_none rfl _ _ _) rfl ?_) | (refine bodyPost_end (results_none rfl _ _ _) rfl ?_)
    exact ⟨rfl, ⟨_, _, H1.out⟩, Kp.set HL.out _⟩
  · rw [if_neg hx]
    have hx' : ¬ (x.toNat : Int) = (y.toNat : Int) := by omega
    have hs := ckSpoil S b c w h
    clear h hx
    go_enter Tryz.func199, Tryz.ntmps199
    go_wp2_with (go_at_call 198; refine hs.mono ?_; rintro e w' ⟨rfl, hE, hB⟩)
    first | (refine bodyPost_ret (results_none rfl _ _ _) rfl ?_) | (refine bodyPost_end (results_none rfl _ _ _) rfl ?_)
    exact ⟨rfl, hE, hB⟩
theorem ck_dataEnd (S : Nat → Prop) (b : Nat) (c : Ck) (x : UInt8) (w : World) (h : Etr w S b c) (hst : c.st = 4) :
    Calls Tryz.prog 187 #[.pointer (some ⟨b, 0, none⟩), .int .u8 (x.toNat : Int)] w fun e w' => e = .returned (.tuple #[]) ∧ Etr w' S b (eat1 c x) ∧ Kp S w w' := by
  have he : (if x.toNat = UInt8.toNat 13 then (⟨5, c.lf, c.dg, c.bd⟩ : Ck) else badC c) = eat1 c x := by
    by_cases hx : x.toNat = 13
    · rw [eat_4 hst hx, if_pos (show x.toNat = UInt8.toNat 13 from hx)]
    · rw [eat_4' hst hx, if_neg (show ¬ x.toNat = UInt8.toNat 13 from hx)]
  have hs := ckExpect S b c x 13 5 w h
  rw [he] at hs
  clear h he hst
  go_enter Tryz.func187, Tryz.ntmps187
  go_wp2_with (go_at_call 199; refine hs.mono ?_; rintro e w' ⟨rfl, hE, hB⟩)
  first | (refine bodyPost_ret (results_none rfl _ _ _) rfl ?_) | (refine bodyPost_end (results_none rfl _ _ _) rfl ?_)
  exact ⟨rfl, hE, hB⟩
theorem ck_dataLine (S : Nat → Prop) (b : Nat) (c : Ck) (x : UInt8) (w : World) (h : Etr w S b c) (hst : c.st = 5) :
    Calls Tryz.prog 188 #[.pointer (some ⟨b, 0, none⟩), .int .u8 (x.toNat : Int)] w fun e w' => e = .returned (.tuple #[]) ∧ Etr w' S b (eat1 c x) ∧ Kp S w w' := by
  have he : (if x.toNat = UInt8.toNat 10 then (⟨1, c.lf, c.dg, c.bd⟩ : Ck) else badC c) = eat1 c x := by
    by_cases hx : x.toNat = 10
    · rw [eat_5 hst hx, if_pos (show x.toNat = UInt8.toNat 10 from hx)]
    · rw [eat_5' hst hx, if_neg (show ¬ x.toNat = UInt8.toNat 10 from hx)]
  have hs := ckExpect S b c x 10 1 w h
  rw [he] at hs
  clear h he hst
  go_enter Tryz.func188, Tryz.ntmps188
  go_wp2_with (go_at_call 199; refine hs.mono ?_; rintro e w' ⟨rfl, hE, hB⟩)
  first | (refine bodyPost_ret (results_none rfl _ _ _) rfl ?_) | (refine bodyPost_end (results_none rfl _ _ _) rfl ?_)
  exact ⟨rfl, hE, hB⟩
theorem ck_last (S : Nat → Prop) (b : Nat) (c : Ck) (x : UInt8) (w : World) (h : Etr w S b c) (hst : c.st = 6) :
    Calls Tryz.prog 189 #[.pointer (some ⟨b, 0, none⟩), .int .u8 (x.toNat : Int)] w fun e w' => e = .returned (.tuple #[]) ∧ Etr w' S b (eat1 c x) ∧ Kp S w w' := by
  have he : (if x.toNat = UInt8.toNat 13 then (⟨7, c.lf, c.dg, c.bd⟩ : Ck) else badC c) = eat1 c x := by
    by_cases hx : x.toNat = 13
    · rw [eat_6 hst hx, if_pos (show x.toNat = UInt8.toNat 13 from hx)]
    · rw [eat_6' hst hx, if_neg (show ¬ x.toNat = UInt8.toNat 13 from hx)]
  have hs := ckExpect S b c x 13 7 w h
  rw [he] at hs
  clear h he hst
  go_enter Tryz.func189, Tryz.ntmps189
  go_wp2_with (go_at_call 199; refine hs.mono ?_; rintro e w' ⟨rfl, hE, hB⟩)
  first | (refine bodyPost_ret (results_none rfl _ _ _) rfl ?_) | (refine bodyPost_end (results_none rfl _ _ _) rfl ?_)
  exact ⟨rfl, hE, hB⟩
theorem ck_lastLine (S : Nat → Prop) (b : Nat) (c : Ck) (x : UInt8) (w : World) (h : Etr w S b c) (hst : c.st = 7) :
    Calls Tryz.prog 190 #[.pointer (some ⟨b, 0, none⟩), .int .u8 (x.toNat : Int)] w fun e w' => e = .returned (.tuple #[]) ∧ Etr w' S b (eat1 c x) ∧ Kp S w w' := by
  have he : (if x.toNat = UInt8.toNat 10 then (⟨8, c.lf, c.dg, c.bd⟩ : Ck) else badC c) = eat1 c x := by
    by_cases hx : x.toNat = 10
    · rw [eat_7 hst hx, if_pos (show x.toNat = UInt8.toNat 10 from hx)]
    · rw [eat_7' hst hx, if_neg (show ¬ x.toNat = UInt8.toNat 10 from hx)]
  have hs := ckExpect S b c x 10 8 w h
  rw [he] at hs
  clear h he hst
  go_enter Tryz.func190, Tryz.ntmps190
  go_wp2_with (go_at_call 199; refine hs.mono ?_; rintro e w' ⟨rfl, hE, hB⟩)
  first | (refine bodyPost_ret (results_none rfl _ _ _) rfl ?_) | (refine bodyPost_end (results_none rfl _ _ _) rfl ?_)
  exact ⟨rfl, hE, hB⟩
theorem ck_sizeEnd (S : Nat → Prop) (b : Nat) (c : Ck) (x : UInt8) (w : World) (h : Etr w S b c) (hst : c.st = 2) :
    Calls Tryz.prog 185 #[.pointer (some ⟨b, 0, none⟩), .int .u8 (x.toNat : Int)] w fun e w' => e = .returned (.tuple #[]) ∧ Etr w' S b (eat1 c x) ∧ Kp S w w' := by
  have hc1 : w.cell? ⟨b, 1, none⟩ = some (.int .i64 c.lf) := by obtain ⟨vd, vb, hv⟩ := h; exact hv.c1
  have he : ∀ s : Int, s = (if c.lf = 0 then 6 else 3) → (if x.toNat = UInt8.toNat 10 then (⟨s, c.lf, c.dg, c.bd⟩ : Ck) else badC c) = eat1 c x := by
    intro s hs
    subst hs
    by_cases hx : x.toNat = 10
    · rw [eat_2 hst hx, if_pos (show x.toNat = UInt8.toNat 10 from hx)]
    · rw [eat_2' hst hx, if_neg (show ¬ x.toNat = UInt8.toNat 10 from hx)]
  by_cases hl : c.lf = 0
  · have hs := ckExpect S b c x 10 6 w h
    rw [he 6 (by rw [if_pos hl])] at hs
    rw [hl] at hc1
    clear h he hst hl
    go_enter Tryz.func185, Tryz.ntmps185
    go_wp2_with (go_at_call 199; refine hs.mono ?_; rintro e w' ⟨rfl, hE, hB⟩)
    first | (refine bodyPost_ret (results_none rfl _ _ _) rfl ?_) | (refine bodyPost_end (results_none rfl _ _ _) rfl ?_)
    exact ⟨rfl, hE, hB⟩
  · have hs := ckExpect S b c x 10 3 w h
    rw [he 3 (by rw [if_neg hl])] at hs
    clear h he hst
    go_enter Tryz.func185, Tryz.ntmps185
    go_wp2_with (go_at_call 199; refine hs.mono ?_; rintro e w' ⟨rfl, hE, hB⟩)
    first | (refine bodyPost_ret (results_none rfl _ _ _) rfl ?_) | (refine bodyPost_end (results_none rfl _ _ _) rfl ?_)
    exact ⟨rfl, hE, hB⟩
end Go.Proofs.YteibacmohplblaaGreatDoor
namespace Go.Proofs.YteibacmohplblaaGreatDoor
open Go.RowKit

theorem EtrV.kept {w w' : World} {S : Nat → Prop} {b : Nat} {c : Ck} {vd vb : Value} (h : EtrV w S b c vd vb) (hb : Below w.heap.size w w') : EtrV w' S b c vd vb := by
  have hk : ∀ k, k < w.heap.size → w'.heap[k]? = w.heap[k]? := fun k hk => hb.block k hk
  have cell : ∀ k, w'.cell? ⟨b, k, none⟩ = w.cell? ⟨b, k, none⟩ := fun k => World.cell?_of_block (a := ⟨b, k, none⟩) (hk b h.hi)
  exact {
    c0 := (cell 0).trans h.c0
    c1 := (cell 1).trans h.c1
    c2 := (cell 2).trans h.c2
    c3 := (cell 3).trans h.c3
    od := h.od.kept fun k e => hk k (h.od.lt k e).2
    ob := h.ob.kept fun k e => hk k (h.ob.lt k e).2
    nd := h.nd
    nb := h.nb
    ne := h.ne
    fz := fun k => by rw [World.frozen?_of_block (a := ⟨b, k, none⟩) (hk b h.hi)]; exact h.fz k
    lo := h.lo
    sd := h.sd
    sb := h.sb
    sz := fun k hk => Nat.lt_of_lt_of_le (h.sz k hk) hb.size
    hi := Nat.lt_of_lt_of_le h.hi hb.size }
theorem len_list (s : ByteArray) : s.data.toList.length = s.size := by simp
theorem back_list (s : ByteArray) : (⟨s.data.toList.toArray⟩ : ByteArray) = s := ba_ext (by simp)
theorem EtrV.dtext {w : World} {S : Nat → Prop} {b : Nat} {c : Ck} {vd vb : Value} (h : EtrV w S b c vd vb) : (convert 22 9 vd).run Tryz.prog w = .ok (.string c.dg) w := by
  have := h.od.text
  rw [back_list] at this
  exact this
theorem EtrV.btext {w : World} {S : Nat → Prop} {b : Nat} {c : Ck} {vd vb : Value} (h : EtrV w S b c vd vb) : (convert 22 9 vb).run Tryz.prog w = .ok (.string c.bd) w := by
  have := h.ob.text
  rw [back_list] at this
  exact this
theorem EtrV.dform {w : World} {S : Nat → Prop} {b : Nat} {c : Ck} {vd vb : Value} (h : EtrV w S b c vd vb) : ∃ a cap, vd = .slice a c.dg.size cap := by
  obtain ⟨a, cap, e, _⟩ := h.od.form
  exact ⟨a, cap, by rw [e, len_list]⟩
theorem EtrV.bform {w : World} {S : Nat → Prop} {b : Nat} {c : Ck} {vd vb : Value} (h : EtrV w S b c vd vb) : ∃ a cap, vb = .slice a c.bd.size cap := by
  obtain ⟨a, cap, e, _⟩ := h.ob.form
  exact ⟨a, cap, by rw [e, len_list]⟩

set_option maxHeartbeats 1000000 in
theorem ckTold (S : Nat → Prop) (b : Nat) (c : Ck) (w : World) (h : Etr w S b c) (hd : numOk 16 13 c.dg = true) (hbd : c.bd.size ≤ 4000) :
    Calls Tryz.prog 197 #[.pointer (some ⟨b, 0, none⟩)] w fun e w' => e = .returned (.tuple #[]) ∧ Etr w' S b (if numV 16 13 c.dg + (c.bd.size : Int) ≤ 4000 then ⟨2, numV 16 13 c.dg, ⟨#[]⟩, c.bd⟩ else badC c) ∧ Kp S w w' := by
  obtain ⟨vd, vb, hv⟩ := h
  have hm : c.dg.size ≤ 13 := by
    unfold numOk at hd
    rw [Bool.and_eq_true] at hd
    exact (of_decide_eq_true hd.1).2
  have hn0 := num_bd (s := c.dg)
  have hn1 : numV 16 13 c.dg ≤ 4503599627370496 := by
    rw [num_yes hd]
    unfold numOk at hd
    rw [Bool.and_eq_true] at hd
    have := num_bound16 (s := c.dg) (k := c.dg.size) hm (Nat.le_refl _) (by rw [List.take_of_length_le (by simp)]; exact hd.2)
    rw [List.take_of_length_le (by simp)] at this
    exact this.2
  have hx : Calls Tryz.prog 196 #[.string c.dg] w fun e w' => e = .returned (.tuple #[.int .i64 (numV 16 13 c.dg), .bool true]) ∧ Below w.heap.size w w' := by
    have := implHexD c.dg w (by unfold maxLen; omega)
    unfold numE at this
    rw [hd] at this
    exact this
  have hcv := hv.dtext
  have hc2 := hv.c2
  have hf := hv.fz
  have hlo : Hid (¬ S b) := hv.lo
  have hle : Hid (∀ k, S k → k < w.heap.size) := hv.sz
  obtain ⟨ab, cb, rfl⟩ := hv.bform
  generalize numV 16 13 c.dg = n at hn0 hn1 hx ⊢
  clear hd hm
  by_cases hz : n + (c.bd.size : Int) ≤ 4000
  · have hz' : ¬ 4000 < (c.bd.size : Int) + n := by omega
    rw [if_pos hz]
    go_enter Tryz.func197, Tryz.ntmps197
    go_wp2_with fail
    refine hx.mono ?_
    rintro e w1 ⟨rfl, hb1⟩
    have hv1 := hv.kept hb1
    have hb1' : Hid (Kp S w w1) := Kp.of hb1 hle.out
    clear hv hcv hc2 hf hb1 hx
    have hc3 := hv1.c3
    have h1 := hv1.lf n
    have h2 := h1.dg0
    have h3 := h2.st 2
    have hc1 := hv1.c1
    have hc2 := h1.c2
    have hc0 := h2.c0
    have hf := hv1.fz
    have H3 : Hid _ := h3
    clear h1 h2 h3 hv1
    go_wp2
    first | (refine bodyPost_ret (results_none rfl _ _ _) rfl ?_) | (refine bodyPost_end (results_none rfl _ _ _) rfl ?_)
    exact ⟨rfl, ⟨_, _, H3.out⟩, hb1'.out.trans (((Kp.set hlo.out _).trans (Kp.set hlo.out _)).trans (Kp.set hlo.out _))⟩
  · have hz' : 4000 < (c.bd.size : Int) + n := by omega
    rw [if_neg hz]
    go_enter Tryz.func197, Tryz.ntmps197
    go_wp2_with fail
    refine hx.mono ?_
    rintro e w1 ⟨rfl, hb1⟩
    have hv1 := hv.kept hb1
    have hb1' : Hid (Kp S w w1) := Kp.of hb1 hle.out
    clear hv hcv hc2 hf hb1 hx
    have hc3 := hv1.c3
    have hs := ckSpoil S b c w1 ⟨_, _, hv1⟩
    have hf := hv1.fz
    clear hv1
    go_wp2_with (go_at_call 198; refine hs.mono ?_; rintro e w' ⟨rfl, hE, hB⟩)
    first | (refine bodyPost_ret (results_none rfl _ _ _) rfl ?_) | (refine bodyPost_end (results_none rfl _ _ _) rfl ?_)
    exact ⟨rfl, hE, hb1'.out.trans hB⟩

set_option maxHeartbeats 1000000 in
theorem ck_data (S : Nat → Prop) (b : Nat) (c : Ck) (x : UInt8) (w : World) (h : Etr w S b c) (hst : c.st = 3) (hbd : c.bd.size ≤ 4000) (hl0 : 0 ≤ c.lf) (hl1 : c.lf ≤ 4000) :
    Calls Tryz.prog 186 #[.pointer (some ⟨b, 0, none⟩), .int .u8 (x.toNat : Int)] w fun e w' => e = .returned (.tuple #[]) ∧ Etr w' S b (eat1 c x) ∧ Kp S w w' := by
  obtain ⟨vd, vb, hv⟩ := h
  have hc3 := hv.c3
  have hlo := hv.lo
  have hf := hv.fz
  have hll := len_list c.bd
  have hwr : IntKind.i64.wrap (c.lf - 1) = c.lf - 1 := by rw [IntKind.wrap_i64]; omega
  rw [eat_3 hst]
  by_cases hz : c.lf = 1
  · rw [if_pos hz]
    have hz' : c.lf - 1 = 0 := by omega
    go_enter Tryz.func186, Tryz.ntmps186
    go_wp2_with (
      at_builtin
      refine wpList_pushC _ rfl (.tmp 8) (.tmp 10) rfl 0 _ _ _ x rfl rfl hv.ob rfl (by omega) (Nat.zero_le _) ?_
      intro v2 w2 ho2 hg2 hat
      have h1 := hv.bdPush ho2 hg2 hat
      have hb1 : Kp S w (w2.setCell ⟨b, 3, none⟩ v2) := (Kp.grown hg2 hv.sb hv.sz).trans (Kp.set hlo _)
      have hq3 := hg2.cell (a := ⟨b, 3, none⟩) hv.c3 hv.nb
      have hq0 := hg2.cell (a := ⟨b, 0, none⟩) hv.c0 hv.nb
      have hq1 := hg2.cell (a := ⟨b, 1, none⟩) hv.c1 hv.nb
      have hf2 : ∀ k, w2.frozen? ⟨b, k, none⟩ = false := fun k => (World.frozen?_of_block (a := ⟨b, k, none⟩) (hg2.block b hv.hi hv.nb)).trans (hv.fz k)
      obtain ⟨a2, cp2, hv2, _⟩ := ho2.form
      rw [List.length_append, hll, List.length_singleton] at hv2
      subst hv2
      have h2 := h1.lf (c.lf - 1)
      have hc1 := h1.c1
      have hcc := h2.c1
      have h3 := h2.st 4
      have hc0 := h2.c0
      have H3 : Hid _ := h3
      have HB : Hid _ := hb1
      clear hv h1 h2 h3 ho2 hg2 hb1 hc3 hf)
    first | (refine bodyPost_ret (results_none rfl _ _ _) rfl ?_) | (refine bodyPost_end (results_none rfl _ _ _) rfl ?_)
    have H4 := H3.out
    rw [hz'] at H4
    exact ⟨rfl, ⟨_, _, H4⟩, Kp.trans HB.out ((Kp.set hlo _).trans (Kp.set hlo _))⟩
  · rw [if_neg hz]
    have hz' : ¬ c.lf - 1 = 0 := by omega
    go_enter Tryz.func186, Tryz.ntmps186
    go_wp2_with (
      at_builtin
      refine wpList_pushC _ rfl (.tmp 8) (.tmp 10) rfl 0 _ _ _ x rfl rfl hv.ob rfl (by omega) (Nat.zero_le _) ?_
      intro v2 w2 ho2 hg2 hat
      have h1 := hv.bdPush ho2 hg2 hat
      have hb1 : Kp S w (w2.setCell ⟨b, 3, none⟩ v2) := (Kp.grown hg2 hv.sb hv.sz).trans (Kp.set hlo _)
      have hq3 := hg2.cell (a := ⟨b, 3, none⟩) hv.c3 hv.nb
      have hq0 := hg2.cell (a := ⟨b, 0, none⟩) hv.c0 hv.nb
      have hq1 := hg2.cell (a := ⟨b, 1, none⟩) hv.c1 hv.nb
      have hf2 : ∀ k, w2.frozen? ⟨b, k, none⟩ = false := fun k => (World.frozen?_of_block (a := ⟨b, k, none⟩) (hg2.block b hv.hi hv.nb)).trans (hv.fz k)
      obtain ⟨a2, cp2, hv2, _⟩ := ho2.form
      rw [List.length_append, hll, List.length_singleton] at hv2
      subst hv2
      have h2 := h1.lf (c.lf - 1)
      have hc1 := h1.c1
      have hcc := h2.c1
      have H3 : Hid _ := h2
      have HB : Hid _ := hb1
      clear hv h1 h2 ho2 hg2 hb1 hc3 hf)
    first | (refine bodyPost_ret (results_none rfl _ _ _) rfl ?_) | (refine bodyPost_end (results_none rfl _ _ _) rfl ?_)
    have H4 := H3.out
    rw [hst] at H4
    exact ⟨rfl, ⟨_, _, H4⟩, Kp.trans HB.out (Kp.set hlo _)⟩

set_option maxHeartbeats 1000000 in
theorem ck_size (S : Nat → Prop) (b : Nat) (c : Ck) (x : UInt8) (w : World) (h : Etr w S b c) (hst : c.st = 1) (hbd : c.bd.size ≤ 4000) (hdg : c.dg.size ≤ 13) (hall : allB (digN 16) c.dg.data.toList = true) :
    Calls Tryz.prog 184 #[.pointer (some ⟨b, 0, none⟩), .int .u8 (x.toNat : Int)] w fun e w' => e = .returned (.tuple #[]) ∧ Etr w' S b (eat1 c x) ∧ Kp S w w' := by
  have hE := h
  obtain ⟨vd, vb, hv⟩ := h
  have hc2 := hv.c2
  have hlo := hv.lo
  have hf := hv.fz
  have hll := len_list c.dg
  have hxb := byte_lt x
  by_cases h13 : x.toNat = 13
  · have h13' : (x.toNat : Int) = 13 := by omega
    have hdv : digV (x.toNat : Int) = -1 := by rw [h13']; decide
    by_cases h0 : 0 < c.dg.size
    · have hok : numOk 16 13 c.dg = true := numOk_in (by omega) hdg hall.symm
      have he : (if numV 16 13 c.dg + (c.bd.size : Int) ≤ 4000 then (⟨2, numV 16 13 c.dg, ⟨#[]⟩, c.bd⟩ : Ck) else badC c) = eat1 c x := by
        by_cases hz : numV 16 13 c.dg + (c.bd.size : Int) ≤ 4000
        · rw [if_pos hz, eat_size hst h13 hok hz]
        · rw [if_neg hz, eat_nosize hst (by omega) (fun y => hz y.2.2)]
      have hs := ckTold S b c w hE hok hbd
      rw [he] at hs
      obtain ⟨ad, cd, rfl⟩ := hv.dform
      clear he hok hE hv hdv
      go_enter Tryz.func184, Tryz.ntmps184
      go_wp2_with (go_at_call 197; refine hs.mono ?_; rintro e w' ⟨rfl, hE, hB⟩)
      first | (refine bodyPost_ret (results_none rfl _ _ _) rfl ?_) | (refine bodyPost_end (results_none rfl _ _ _) rfl ?_)
      exact ⟨rfl, hE, hB⟩
    · have hno : numOk 16 13 c.dg = false := numOk_out (by omega)
      have he : badC c = eat1 c x := (eat_nosize hst (by omega) (fun y => by rw [hno] at y; cases y.2.1)).symm
      have hs := ckSpoil S b c w hE
      rw [he] at hs
      obtain ⟨ad, cd, rfl⟩ := hv.dform
      have hdz : c.dg.size = 0 := by omega
      rw [hdz] at hc2
      clear he hno hE hv h0
      go_enter Tryz.func184, Tryz.ntmps184
      go_wp2_with (first | (go_at_call 198; refine hs.mono ?_; rintro e w' ⟨rfl, hE, hB⟩) | (go_at_call 134; refine (implDigV _ _).mono ?_; rintro e w' ⟨rfl, hw'⟩; obtain rfl := hw'.symm; clear hw'))
      first | (refine bodyPost_ret (results_none rfl _ _ _) rfl ?_) | (refine bodyPost_end (results_none rfl _ _ _) rfl ?_)
      exact ⟨rfl, hE, hB⟩
  · have h13' : ¬ (x.toNat : Int) = 13 := by omega
    by_cases hd : 0 ≤ digV (x.toNat : Int)
    · by_cases h12 : c.dg.size < 13
      · rw [eat_digit hst hd h12]
        have hform := hv.dform
        go_enter Tryz.func184, Tryz.ntmps184
        go_wp2_with (first | (go_at_call 134; refine (implDigV _ _).mono ?_; rintro e w' ⟨rfl, hw'⟩; obtain rfl := hw'.symm; clear hw'; obtain ⟨ad, cd, hvd⟩ := hform; subst hvd) | (
          at_builtin
          refine wpList_pushC _ rfl (.tmp 36) (.tmp 38) rfl 0 _ _ _ x rfl rfl hv.od rfl (by omega) (Nat.zero_le _) ?_
          intro v2 w2 ho2 hg2 hat
          have h1 := hv.dgPush ho2 hg2 hat
          have hb1 : Kp S w (w2.setCell ⟨b, 2, none⟩ v2) := (Kp.grown hg2 hv.sd hv.sz).trans (Kp.set hlo _)
          have hq3 := hg2.cell (a := ⟨b, 2, none⟩) hv.c2 hv.nd
          have hf2 : ∀ k, w2.frozen? ⟨b, k, none⟩ = false := fun k => (World.frozen?_of_block (a := ⟨b, k, none⟩) (hg2.block b hv.hi hv.nd)).trans (hv.fz k)
          obtain ⟨a2, cp2, hv2, _⟩ := ho2.form
          rw [List.length_append, hll, List.length_singleton] at hv2
          subst hv2
          have H3 : Hid _ := h1
          have HB : Hid _ := hb1
          clear hv h1 ho2 hg2 hb1 hc2 hf hE))
        first | (refine bodyPost_ret (results_none rfl _ _ _) rfl ?_) | (refine bodyPost_end (results_none rfl _ _ _) rfl ?_)
        have H4 := H3.out
        rw [hst] at H4
        exact ⟨rfl, ⟨_, _, H4⟩, HB.out⟩
      · have he : badC c = eat1 c x := (eat_nosize hst (fun y => h12 y.2) (fun y => h13 y.1)).symm
        have hs := ckSpoil S b c w hE
        rw [he] at hs
        obtain ⟨ad, cd, rfl⟩ := hv.dform
        clear he hE hv
        go_enter Tryz.func184, Tryz.ntmps184
        go_wp2_with (first | (go_at_call 198; refine hs.mono ?_; rintro e w' ⟨rfl, hE, hB⟩) | (go_at_call 134; refine (implDigV _ _).mono ?_; rintro e w' ⟨rfl, hw'⟩; obtain rfl := hw'.symm; clear hw'))
        first | (refine bodyPost_ret (results_none rfl _ _ _) rfl ?_) | (refine bodyPost_end (results_none rfl _ _ _) rfl ?_)
        exact ⟨rfl, hE, hB⟩
    · have he : badC c = eat1 c x := (eat_nosize hst (fun y => hd y.1) (fun y => h13 y.1)).symm
      have hs := ckSpoil S b c w hE
      rw [he] at hs
      clear he hE hv
      go_enter Tryz.func184, Tryz.ntmps184
      go_wp2_with (first | (go_at_call 198; refine hs.mono ?_; rintro e w' ⟨rfl, hE, hB⟩) | (go_at_call 134; refine (implDigV _ _).mono ?_; rintro e w' ⟨rfl, hw'⟩; obtain rfl := hw'.symm; clear hw'))
      first | (refine bodyPost_ret (results_none rfl _ _ _) rfl ?_) | (refine bodyPost_end (results_none rfl _ _ _) rfl ?_)
      exact ⟨rfl, hE, hB⟩
end Go.Proofs.YteibacmohplblaaGreatDoor

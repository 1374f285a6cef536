/-
  A row of bytes that a call owns, also one made out of a text; one byte appended to it.
  The program's reading of chunks under way: its block, and what each of its methods does to it.
  The states of the program's reading of chunks, each by its contract.
-/
import Derived.Test.YtmgmphkncgochaaGreatDoorG02
import Derived.Laws.Append
import Derived.Laws.IdiomStrings
import Derived.Test.YtmgmphkncgochaaGreatDoorG07
import Derived.Test.YtmgmphkncgochaaGreatDoorG11
namespace Go.Proofs.YtmgmphkncgochaaGreatDoor
open Go.RowKit

/-- The value v owns the bytes l, in a block from B on, of which no cell is frozen. -/
def OwnsC (w : World) (B : Nat) (v : Value) (l : List UInt8) : Prop := (v = .slice none 0 0 ∧ l = []) ∨ ∃ g cap cur fz, v = .slice (some ⟨g, 0, none⟩) l.length cap ∧ B ≤ g ∧ w.heap[g]? = some (.cells cur 5 fz) ∧ (fz = (0, 0) ∨ cur.size ≤ fz.1) ∧ l.length ≤ cap ∧ cap ≤ maxLen ∧ cur.size = cap ∧ cur.toList.take l.length = bytesV l
theorem OwnsC.of {w : World} {B : Nat} {v : Value} {l : List UInt8} (h : OwnsB w B v l) : OwnsC w B v l := by
  rcases h.2 with ⟨hv, hn⟩ | ⟨g, cap, cur, hv, hb, hg, h1, h2, h3, h4⟩
  · exact .inl ⟨hv, List.eq_nil_of_length_eq_zero hn⟩
  · exact .inr ⟨g, cap, cur, (0, 0), hv, hb, hg, .inl rfl, h1, h2, by omega, by rw [Nat.mul_one] at h4; exact h4⟩
theorem OwnsC.nil (w : World) (B : Nat) : OwnsC w B (.slice none 0 0) [] := .inl ⟨rfl, rfl⟩
theorem OwnsC.lt {w : World} {B : Nat} {v : Value} {l : List UInt8} (h : OwnsC w B v l) : ∀ k, v.ownBlock = some k → B ≤ k ∧ k < w.heap.size := by
  intro k hk
  rcases h with ⟨rfl, _⟩ | ⟨g, cap, cur, fz, rfl, hb, hg, _⟩
  · simp [Value.ownBlock] at hk
  · simp [Value.ownBlock] at hk
    subst hk
    exact ⟨hb, (Array.getElem?_eq_some_iff.1 hg).1⟩
/-- What is owned is owned behind a step that keeps its block. -/
theorem OwnsC.kept {w w' : World} {B : Nat} {v : Value} {l : List UInt8} (h : OwnsC w B v l) (hk : ∀ k, v.ownBlock = some k → w'.heap[k]? = w.heap[k]?) : OwnsC w' B v l := by
  rcases h with h0 | ⟨g, cap, cur, fz, rfl, hb, hg, rest⟩
  · exact .inl h0
  · exact .inr ⟨g, cap, cur, fz, rfl, hb, (hk g rfl).trans hg, rest⟩
theorem OwnsC.form {w : World} {B : Nat} {v : Value} {l : List UInt8} (h : OwnsC w B v l) : ∃ a cap, v = .slice a l.length cap ∧ l.length ≤ cap ∧ cap ≤ maxLen := by
  rcases h with ⟨rfl, rfl⟩ | ⟨g, cap, cur, fz, rfl, hb, hg, _, h1, h2, _⟩
  · exact ⟨none, 0, rfl, Nat.zero_le _, Nat.zero_le _⟩
  · exact ⟨_, cap, rfl, h1, h2⟩
theorem OwnsC.cells {w : World} {B g n cap : Nat} {l : List UInt8} (h : OwnsC w B (.slice (some ⟨g, 0, none⟩) n cap) l) : ∀ j u, (bytesV l)[j]? = some u → w.cell? ((⟨g, 0, none⟩ : Addr).add j) = some u := by
  intro j u hu
  rcases h with ⟨h0, _⟩ | ⟨g', cap', cur, fz, hv, hb, hg, _, h1, h2, h3, h4⟩
  · cases h0
  · obtain ⟨rfl, rfl, rfl⟩ : g = g' ∧ n = l.length ∧ cap = cap' := by simpa using hv
    have hadd : (⟨g, 0, none⟩ : Addr).add j = ⟨g, j, none⟩ := by unfold Addr.add; split <;> simp_all
    rw [hadd, cell_of_row w g j cur 5 fz hg]
    rw [← h4, List.getElem?_take] at hu
    split at hu
    · simpa using hu
    · cases hu
/-- The owned bytes as a text. -/
theorem OwnsC.text {w : World} {B : Nat} {v : Value} {l : List UInt8} (h : OwnsC w B v l) : (convert 22 9 v).run Tryz.prog w = .ok (.string ⟨l.toArray⟩) w := by
  have h' := h
  rcases h with ⟨rfl, rfl⟩ | ⟨g, cap, cur, fz, rfl, hb, hg, rest⟩
  · rw [run_convert_bytes_string w 22 9 5 none 0 0 Tryz.underlying22 Tryz.underlying5 Tryz.underlying9]
    rfl
  · refine run_convert_bytes_back (P := Tryz.prog) w 22 9 5 ⟨g, 0, none⟩ cap l Tryz.underlying22 Tryz.underlying5 Tryz.underlying9 (fun j hj => ?_)
    exact OwnsC.cells h' j _ (by simp [bytesV, hj])
/-- A row made out of a text. -/
theorem row_of (w : World) (s : ByteArray) (hz : s.size ≤ 1048576) : ∃ (cap : Nat) (C : Array Value), (convert 9 22 (.string s)).run Tryz.prog w = .ok (.slice (some ⟨w.heap.size, 0, none⟩) s.size cap) (w.drew.alloc (.cells C 5 (C.size, C.size + 1))) ∧
    OwnsC (w.drew.alloc (.cells C 5 (C.size, C.size + 1))) w.heap.size (.slice (some ⟨w.heap.size, 0, none⟩) s.size cap) s.data.toList := by
  have hl : s.data.toList.length = s.size := by simp
  have hge := grownCap_ge w s.size 0 5
  have hsz : (bytesRow s (grownCap w s.size 0 5)).size = grownCap w s.size 0 5 := by
    have : (bytesRow s (grownCap w s.size 0 5)).size = s.data.size + (grownCap w s.size 0 5 - s.size) := by simp [bytesRow]
    have e : s.data.size = s.size := rfl
    omega
  refine ⟨_, _, run_bytes_of_string w 9 22 5 s Tryz.underlying9 Tryz.underlying22 Tryz.underlying5, .inr ⟨w.heap.size, _, _, _, by rw [hl], Nat.le_refl _, heap_alloc_new w.drew _, .inr (Nat.le_refl _), by rw [hl]; exact hge, grownCap_le_maxLen w _ _ _ (by unfold maxLen; omega), hsz, ?_⟩⟩
  refine List.ext_getElem? fun j => ?_
  by_cases hj : j < s.data.size
  · rw [List.getElem?_take]
    have hj' : j < s.data.toList.length := by simpa using hj
    rw [if_pos hj']
    have := bytesRow_at s (grownCap w s.size 0 5) j hj
    have e : s.data[j]? = some s.data[j] := Array.getElem?_eq_getElem hj
    rw [Array.getElem?_toList, this]
    unfold bytesV
    rw [List.getElem?_map, Array.getElem?_toList, e]
    rfl
  · have hj' : s.data.toList.length ≤ j := by simpa using hj
    rw [List.getElem?_eq_none (by rw [List.length_take]; omega), List.getElem?_eq_none (by rw [bytesV_length]; exact hj')]
/-- One byte appended. -/
theorem append_one (w : World) (ty : TypeId) (B : Nat) (v : Value) (l : List UInt8) (c : UInt8) (hown : OwnsC w B v l) (H : Nat) (hH : w.cell? ⟨H, 0, none⟩ = some (.int .u8 (c.toNat : Int))) (hlen : l.length ≤ 70000000000000) (hB : B ≤ w.heap.size) :
    ∃ v' w', (Builtin.append_ #[22, 22] ty #[v, .slice (some ⟨H, 0, none⟩) 1 1]).run Tryz.prog w = .ok v' w' ∧ OwnsC w' B v' (l ++ [c]) ∧ w.grownBy w' v.ownBlock ∧ (v'.ownBlock = v.ownBlock ∨ v'.ownBlock = some w.heap.size) := by
  obtain ⟨i0, hi, hz0, hz1, hz2⟩ := info_parts Tryz.info5
  have hnews : ∀ j u, ([.int .u8 (c.toNat : Int)] : List Value)[j]? = some u → w.cell? ((⟨H, 0, none⟩ : Addr).add j) = some u := by
    intro j u hu
    have : j = 0 := by
      have := (List.getElem?_eq_some_iff.1 hu).1
      simpa using this
    subst this
    simp at hu
    subst hu
    exact hH
  have grown : ∀ (old : Nat) (row : Option Nat), old < l.length + 1 → OwnsC (w.drew.alloc (.cells ((bytesV l).toArray ++ [.int .u8 (c.toNat : Int)].toArray ++ Builtin.zeroCells (Value.cells (.int .u8 0)) (grownCap w (l.length + 1) old 5 - (l.length + 1))) 5)) B (.slice (some ⟨w.heap.size, 0, none⟩) (l.length + 1) (grownCap w (l.length + 1) old 5)) (l ++ [c]) ∧
      w.grownBy (w.drew.alloc (.cells ((bytesV l).toArray ++ [.int .u8 (c.toNat : Int)].toArray ++ Builtin.zeroCells (Value.cells (.int .u8 0)) (grownCap w (l.length + 1) old 5 - (l.length + 1))) 5)) row := by
    intro old row ho
    have hge := grownCap_ge w (l.length + 1) old 5
    have hcm : grownCap w (l.length + 1) old 5 ≤ maxLen := grownCap_le_maxLen w (l.length + 1) old 5 (by unfold maxLen; omega)
    refine ⟨.inr ⟨w.heap.size, _, _, (0, 0), by simp, hB, heap_alloc_new w.drew _, .inl rfl, by simpa using hge, hcm, ?_, ?_⟩, ⟨rfl, rfl, rfl, by simp, fun k hk _ => Below.heap_alloc w.drew _ k hk⟩⟩
    · have e1 : (Value.cells (.int .u8 0)).size = 1 := rfl
      simp only [Array.size_append, List.size_toArray, size_zeroCells, e1, bytesV_length, List.length_singleton]
      omega
    · rw [bytesV_snoc]
      simp only [Array.toList_append, List.append_assoc]
      rw [← List.append_assoc]
      refine List.take_left' ?_
      simp [bytesV_length]
  rcases hown with ⟨rfl, rfl⟩ | ⟨g, cap, cur, fz, rfl, hb, hg, hfz, h1, h2, h3, h4⟩
  · have hr := run_append_nil (P := Tryz.prog) w 22 ty 5 i0 (.int .u8 0) Tryz.underlying22 hi hz0 ⟨H, 0, none⟩ 1 1 [.int .u8 (c.toNat : Int)] (by rw [hz1]; rfl) hnews (by omega) (by omega) (by rw [hz2]; omega)
    obtain ⟨g1, g2⟩ := grown 0 none (by simp)
    exact ⟨_, _, hr, by simpa [bytesV] using g1, by rw [show Value.ownBlock (.slice none 0 0) = none from rfl]; simpa [bytesV] using g2, .inr rfl⟩
  · by_cases hroom : l.length + 1 ≤ cap
    · have hn : l.length < cur.size := by omega
      have hcell : w.cell? ⟨g, l.length, none⟩ = some cur[l.length] := by simp [World.cell?, hg, hn]
      have hfro : w.frozen? ⟨g, l.length, none⟩ = false := by
        obtain ⟨lo, hi⟩ := fz
        simp only [World.frozen?, hg, Bool.and_eq_false_iff, decide_eq_false_iff_not]
        rcases hfz with h | h
        · right
          have : hi = 0 := (Prod.mk.inj h).2
          omega
        · left
          simp only at h
          omega
      have hst : (storeCells ⟨g, l.length, none⟩ [.int .u8 (c.toNat : Int)] 0).run Tryz.prog w = .ok () (w.setCell ⟨g, l.length, none⟩ (.int .u8 (c.toNat : Int))) := by
        have hadd : (⟨g, l.length, none⟩ : Addr).add 0 = ⟨g, l.length, none⟩ := rfl
        have hs1 : (store (⟨g, l.length, none⟩ : Addr) (.int .u8 (c.toNat : Int))).run Tryz.prog w = .ok () (w.setCell ⟨g, l.length, none⟩ (.int .u8 (c.toNat : Int))) := by
          rw [run_store Tryz.prog w _ _ _ rfl, hcell]
          simp [hfro]
        simp only [storeCells, Sem.run_bind, hadd, hs1, Result.andThen_ok]
        rfl
      have hf := run_firstCells_some (P := Tryz.prog) w i0.size 1 ⟨H, 0, none⟩ 1 1 [.int .u8 (c.toNat : Int)] (by rw [hz1]; rfl) hnews
      have hr : (Builtin.append_ #[22, 22] ty #[.slice (some ⟨g, 0, none⟩) l.length cap, .slice (some ⟨H, 0, none⟩) 1 1]).run Tryz.prog w = .ok (.slice (some ⟨g, 0, none⟩) (l.length + 1) cap) (w.setCell ⟨g, l.length, none⟩ (.int .u8 (c.toNat : Int))) := by
        rw [hz1] at hf
        simp [Builtin.append_, run_underlying Tryz.underlying22, sizeOf, typeInfo, hi, Builtin.lenOf, hroom, hz1, hf, Addr.add_lit, hst]
      have hset : (w.setCell ⟨g, l.length, none⟩ (.int .u8 (c.toNat : Int))) = w.setRow g (cur.setIfInBounds l.length (.int .u8 (c.toNat : Int))) := setCell_eq_setRow w g l.length cur 5 fz _ hg
      refine ⟨_, _, hr, .inr ⟨g, cap, cur.setIfInBounds l.length (.int .u8 (c.toNat : Int)), fz, by simp, hb, by rw [hset]; exact setRow_heap w g cur _ 5 _ hg, by simpa using hfz, by simpa using hroom, h2, by simpa using h3, ?_⟩, ⟨rfl, rfl, rfl, by simp, fun k _ hk => Below.heap_setCell w ⟨g, l.length, none⟩ _ k (fun e => hk (by simp [Value.ownBlock, e]))⟩, .inl rfl⟩
      rw [bytesV_snoc, ← h4, Array.toList_setIfInBounds, List.length_append, List.length_singleton, List.take_set, List.take_succ_eq_append_getElem (by simpa using hn)]
      rw [List.set_append_right _ _ (by rw [List.length_take]; exact Nat.min_le_left _ _)]
      simp [Nat.min_eq_left (Nat.le_of_lt hn)]
    · have hold : OwnsC w B (.slice (some ⟨g, 0, none⟩) l.length cap) l := .inr ⟨g, cap, cur, fz, rfl, hb, hg, hfz, h1, h2, h3, h4⟩
      have hr := run_append_grow (P := Tryz.prog) w 22 ty 5 i0 (.int .u8 0) Tryz.underlying22 hi hz0 ⟨g, 0, none⟩ l.length cap (bytesV l) (by rw [hz1, bytesV_length]; omega) hold.cells ⟨H, 0, none⟩ 1 1 [.int .u8 (c.toNat : Int)] (by rw [hz1]; rfl) hnews (by omega) (by omega) (by rw [hz2]; exact growslice_fits (by omega) (by omega))
      obtain ⟨g1, g2⟩ := grown cap (some g) (by omega)
      exact ⟨_, _, hr, g1, g2, .inr rfl⟩
/-- One byte appended, as a step of a walk. -/
theorem wpList_pushC {ops : Array Oper} {rest : List Oper} {o : Oper} {a : Act} {Q : Exit → Act → World → Prop} (w : World) (hgd : o.guard = none) (s x : Operand)
    (ho : o.op = .call { callee := .builtin .append, args := #[s, x], argTypes := #[22, 22] }) (B : Nat) (v : Value) (l : List UInt8) (n : Int) (c : UInt8) (hc : n = (c.toNat : Int)) (hs : a.eval s = v) (hown : OwnsC w B v l)
    (hx : a.eval x = .slice (some ⟨w.heap.size, 0, none⟩) 1 1) (hlen : l.length ≤ 70000000000000) (hB : B ≤ w.heap.size)
    (h : ∀ v' w', OwnsC w' B v' (l ++ [c]) → w.grownBy w' v.ownBlock → (v'.ownBlock = v.ownBlock ∨ v'.ownBlock = some (w.heap.size + 1)) → wpList Tryz.prog ops Q rest (a.put o.dst v') w') :
    wpList Tryz.prog ops Q (o :: rest) a (w.alloc (.cells #[.int .u8 n] 5)) := by
  subst hc
  have hk : ∀ k, v.ownBlock = some k → (w.alloc (.cells #[.int .u8 (c.toNat : Int)] 5)).heap[k]? = w.heap[k]? := fun k hk => Below.heap_alloc _ _ _ (hown.lt k hk).2
  obtain ⟨v', w', hr, h1, h2, h3⟩ := append_one (w.alloc (.cells #[.int .u8 (c.toNat : Int)] 5)) o.type B v l c (hown.kept hk) w.heap.size (by rw [World.cell?_alloc_mark]; rfl) hlen (by simp; omega)
  refine wpList_plain hgd fun K hK => ?_
  unfold Oper.wp execOp
  simp only [ho, resolve, invoke, builtin, Sem.run_bind, Sem.run_pure, Result.andThen_ok, List.map_toArray, List.map_cons, List.map_nil, hs, hx, hr]
  refine hK _ _ (h v' w' h1 ⟨h2.os, h2.tape, h2.output, ?_, ?_⟩ ?_)
  · have := h2.size
    simp at this
    omega
  · intro k hk' hne
    rw [h2.block k (by simp; omega) hne]
    exact Below.heap_alloc _ _ _ hk'
  · rcases h3 with h3 | h3
    · exact .inl h3
    · exact .inr (by rw [h3]; simp)
end Go.Proofs.YtmgmphkncgochaaGreatDoor
namespace Go.Proofs.YtmgmphkncgochaaGreatDoor
open Go.RowKit

/-- The blocks of S are kept. -/
def Kp (S : Nat → Prop) (w w' : World) : Prop := w'.os = w.os ∧ w'.tape = w.tape ∧ w'.output = w.output ∧ w.heap.size ≤ w'.heap.size ∧ ∀ k, S k → w'.heap[k]? = w.heap[k]?
theorem Kp.trans {S : Nat → Prop} {w w' w'' : World} (h : Kp S w w') (h' : Kp S w' w'') : Kp S w w'' :=
  ⟨h'.1.trans h.1, h'.2.1.trans h.2.1, h'.2.2.1.trans h.2.2.1, Nat.le_trans h.2.2.2.1 h'.2.2.2.1, fun k hk => (h'.2.2.2.2 k hk).trans (h.2.2.2.2 k hk)⟩
theorem Kp.refl (S : Nat → Prop) (w : World) : Kp S w w := ⟨rfl, rfl, rfl, Nat.le_refl _, fun _ _ => rfl⟩
/-- A reading under way in block b, in the state c; no block of S is one of its own. -/
structure EtrV (w : World) (S : Nat → Prop) (b : Nat) (c : Ck) (vd vb : Value) : Prop where
  c0 : w.cell? ⟨b, 0, none⟩ = some (.int .i64 c.st)
  c1 : w.cell? ⟨b, 1, none⟩ = some (.int .i64 c.lf)
  c2 : w.cell? ⟨b, 2, none⟩ = some vd
  c3 : w.cell? ⟨b, 3, none⟩ = some vb
  od : OwnsC w 0 vd c.dg.data.toList
  ob : OwnsC w 0 vb c.bd.data.toList
  nd : some b ≠ vd.ownBlock
  nb : some b ≠ vb.ownBlock
  ne : vd.ownBlock = none ∨ vd.ownBlock ≠ vb.ownBlock
  fz : ∀ k, w.frozen? ⟨b, k, none⟩ = false
  lo : ¬ S b
  sd : ∀ k, vd.ownBlock = some k → ¬ S k
  sb : ∀ k, vb.ownBlock = some k → ¬ S k
  sz : ∀ k, S k → k < w.heap.size
  hi : b < w.heap.size
def Etr (w : World) (S : Nat → Prop) (b : Nat) (c : Ck) : Prop := ∃ vd vb, EtrV w S b c vd vb

theorem OwnsC.set {w : World} {b : Nat} {v : Value} {l : List UInt8} (h : OwnsC w 0 v l) (hb : some b ≠ v.ownBlock) (k : Nat) (u : Value) : OwnsC (w.setCell ⟨b, k, none⟩ u) 0 v l :=
  h.kept fun j hj => Below.heap_setCell w ⟨b, k, none⟩ u j (fun e => hb (by rw [hj]; exact congrArg some (Eq.symm e)))
theorem EtrV.st {w : World} {S : Nat → Prop} {b : Nat} {c : Ck} {vd vb : Value} (h : EtrV w S b c vd vb) (s : Int) : EtrV (w.setCell ⟨b, 0, none⟩ (.int .i64 s)) S b ⟨s, c.lf, c.dg, c.bd⟩ vd vb where
  c0 := World.cell?_setCell_same _ _ _ h.c0
  c1 := (World.cell?_setCell_other _ _ _ _ (by simp)).trans h.c1
  c2 := (World.cell?_setCell_other _ _ _ _ (by simp)).trans h.c2
  c3 := (World.cell?_setCell_other _ _ _ _ (by simp)).trans h.c3
  od := h.od.set h.nd _ _
  ob := h.ob.set h.nb _ _
  nd := h.nd
  nb := h.nb
  ne := h.ne
  fz := fun k => by rw [World.frozen?_setCell]; exact h.fz k
  lo := h.lo
  sd := h.sd
  sb := h.sb
  sz := fun k hk => by rw [World.size_setCell]; exact h.sz k hk
  hi := by rw [World.size_setCell]; exact h.hi
theorem EtrV.lf {w : World} {S : Nat → Prop} {b : Nat} {c : Ck} {vd vb : Value} (h : EtrV w S b c vd vb) (s : Int) : EtrV (w.setCell ⟨b, 1, none⟩ (.int .i64 s)) S b ⟨c.st, s, c.dg, c.bd⟩ vd vb where
  c0 := (World.cell?_setCell_other _ _ _ _ (by simp)).trans h.c0
  c1 := World.cell?_setCell_same _ _ _ h.c1
  c2 := (World.cell?_setCell_other _ _ _ _ (by simp)).trans h.c2
  c3 := (World.cell?_setCell_other _ _ _ _ (by simp)).trans h.c3
  od := h.od.set h.nd _ _
  ob := h.ob.set h.nb _ _
  nd := h.nd
  nb := h.nb
  ne := h.ne
  fz := fun k => by rw [World.frozen?_setCell]; exact h.fz k
  lo := h.lo
  sd := h.sd
  sb := h.sb
  sz := fun k hk => by rw [World.size_setCell]; exact h.sz k hk
  hi := by rw [World.size_setCell]; exact h.hi
theorem EtrV.dg0 {w : World} {S : Nat → Prop} {b : Nat} {c : Ck} {vd vb : Value} (h : EtrV w S b c vd vb) : EtrV (w.setCell ⟨b, 2, none⟩ (.slice none 0 0)) S b ⟨c.st, c.lf, ⟨#[]⟩, c.bd⟩ (.slice none 0 0) vb where
  c0 := (World.cell?_setCell_other _ _ _ _ (by simp)).trans h.c0
  c1 := (World.cell?_setCell_other _ _ _ _ (by simp)).trans h.c1
  c2 := World.cell?_setCell_same _ _ _ h.c2
  c3 := (World.cell?_setCell_other _ _ _ _ (by simp)).trans h.c3
  od := OwnsC.nil _ _
  ob := h.ob.set h.nb _ _
  nd := by simp [Value.ownBlock]
  nb := h.nb
  ne := .inl rfl
  fz := fun k => by rw [World.frozen?_setCell]; exact h.fz k
  lo := h.lo
  sd := fun k hk => by simp [Value.ownBlock] at hk
  sb := h.sb
  sz := fun k hk => by rw [World.size_setCell]; exact h.sz k hk
  hi := by rw [World.size_setCell]; exact h.hi
theorem Kp.set {S : Nat → Prop} {w : World} {b k : Nat} (h : ¬ S b) (v : Value) : Kp S w (w.setCell ⟨b, k, none⟩ v) := by
  have hb := (Below.refl b w).setCell (show b ≤ (⟨b, k, none⟩ : Addr).block from Nat.le_refl _) v
  exact ⟨hb.os, hb.tape, hb.output, hb.size, fun j hj => Below.heap_setCell w ⟨b, k, none⟩ v j (fun e => h (by rw [← show j = b from e]; exact hj))⟩
theorem Kp.grown {S : Nat → Prop} {w w' : World} {r : Option Nat} (h : w.grownBy w' r) (hr : ∀ k, r = some k → ¬ S k) (hS : ∀ k, S k → k < w.heap.size) : Kp S w w' :=
  ⟨h.os, h.tape, h.output, h.size, fun k hk => h.block k (hS k hk) (fun e => hr k e.symm hk)⟩
theorem Kp.of {S : Nat → Prop} {w w' : World} (h : Below w.heap.size w w') (hS : ∀ k, S k → k < w.heap.size) : Kp S w w' :=
  ⟨h.os, h.tape, h.output, h.size, fun k hk => h.block k (hS k hk)⟩
theorem Kp.below {n : Nat} {w w' : World} (h : Kp (fun k => k < n) w w') : Below n w w' := ⟨h.1, h.2.1, h.2.2.1, h.2.2.2.1, h.2.2.2.2⟩
theorem Kp.less {S T : Nat → Prop} {w w' : World} (h : Kp S w w') (hT : ∀ k, T k → S k) : Kp T w w' := ⟨h.1, h.2.1, h.2.2.1, h.2.2.2.1, fun k hk => h.2.2.2.2 k (hT k hk)⟩
theorem EtrV.dgPush {w w2 : World} {S : Nat → Prop} {b : Nat} {c : Ck} {vd vb v2 : Value} {x : UInt8} (h : EtrV w S b c vd vb) (h1 : OwnsC w2 0 v2 (c.dg.data.toList ++ [x])) (h2 : w.grownBy w2 vd.ownBlock) (h3 : v2.ownBlock = vd.ownBlock ∨ v2.ownBlock = some (w.heap.size + 1)) :
    EtrV (w2.setCell ⟨b, 2, none⟩ v2) S b ⟨c.st, c.lf, c.dg ++ ⟨#[x]⟩, c.bd⟩ v2 vb := by
  have hbl := h2.block b h.hi h.nd
  have hbd : OwnsC w2 0 vb c.bd.data.toList := h.ob.kept fun k hk => h2.block k (h.ob.lt k hk).2 (fun e => by
    rcases h.ne with h' | h'
    · rw [h'] at e; cases e
    · exact h' (e.symm.trans hk.symm))
  have nd2 : some b ≠ v2.ownBlock := by
    rcases h3 with h3 | h3
    · rw [h3]; exact h.nd
    · rw [h3]; intro e; have := Option.some.inj e; have := h.hi; omega
  have cell : ∀ k, w2.cell? ⟨b, k, none⟩ = w.cell? ⟨b, k, none⟩ := fun k => World.cell?_of_block (a := ⟨b, k, none⟩) hbl
  exact {
    c0 := (World.cell?_setCell_other _ _ _ _ (by simp)).trans ((cell 0).trans h.c0)
    c1 := (World.cell?_setCell_other _ _ _ _ (by simp)).trans ((cell 1).trans h.c1)
    c2 := World.cell?_setCell_same _ _ _ ((cell 2).trans h.c2)
    c3 := (World.cell?_setCell_other _ _ _ _ (by simp)).trans ((cell 3).trans h.c3)
    od := by rw [add_list]; exact h1.set nd2 _ _
    ob := hbd.set h.nb _ _
    nd := nd2
    nb := h.nb
    ne := by
      rcases h3 with h3 | h3
      · rw [h3]; exact h.ne
      · right; rw [h3]; intro e; have := (h.ob.lt _ e.symm).2; omega
    fz := fun k => by rw [World.frozen?_setCell, World.frozen?_of_block (a := ⟨b, k, none⟩) hbl]; exact h.fz k
    lo := h.lo
    sd := fun k hk => by
      rcases h3 with h3 | h3
      · exact h.sd k (h3.symm.trans hk)
      · intro hs
        have := h.sz k hs
        rw [h3] at hk
        have := Option.some.inj hk
        omega
    sb := h.sb
    sz := fun k hk => by rw [World.size_setCell]; exact Nat.lt_of_lt_of_le (h.sz k hk) h2.size
    hi := by rw [World.size_setCell]; exact Nat.lt_of_lt_of_le h.hi h2.size }
theorem EtrV.bdPush {w w2 : World} {S : Nat → Prop} {b : Nat} {c : Ck} {vd vb v2 : Value} {x : UInt8} (h : EtrV w S b c vd vb) (h1 : OwnsC w2 0 v2 (c.bd.data.toList ++ [x])) (h2 : w.grownBy w2 vb.ownBlock) (h3 : v2.ownBlock = vb.ownBlock ∨ v2.ownBlock = some (w.heap.size + 1)) :
    EtrV (w2.setCell ⟨b, 3, none⟩ v2) S b ⟨c.st, c.lf, c.dg, c.bd ++ ⟨#[x]⟩⟩ vd v2 := by
  have hbl := h2.block b h.hi h.nb
  have hdg : OwnsC w2 0 vd c.dg.data.toList := h.od.kept fun k hk => h2.block k (h.od.lt k hk).2 (fun e => by
    rcases h.ne with h' | h'
    · rw [h'] at hk; cases hk
    · exact h' (hk.trans e))
  have nb2 : some b ≠ v2.ownBlock := by
    rcases h3 with h3 | h3
    · rw [h3]; exact h.nb
    · rw [h3]; intro e; have := Option.some.inj e; have := h.hi; omega
  have cell : ∀ k, w2.cell? ⟨b, k, none⟩ = w.cell? ⟨b, k, none⟩ := fun k => World.cell?_of_block (a := ⟨b, k, none⟩) hbl
  exact {
    c0 := (World.cell?_setCell_other _ _ _ _ (by simp)).trans ((cell 0).trans h.c0)
    c1 := (World.cell?_setCell_other _ _ _ _ (by simp)).trans ((cell 1).trans h.c1)
    c2 := (World.cell?_setCell_other _ _ _ _ (by simp)).trans ((cell 2).trans h.c2)
    c3 := World.cell?_setCell_same _ _ _ ((cell 3).trans h.c3)
    od := hdg.set h.nd _ _
    ob := by rw [add_list]; exact h1.set nb2 _ _
    nd := h.nd
    nb := nb2
    ne := by
      rcases h3 with h3 | h3
      · rw [h3]; exact h.ne
      · rcases h.ne with h' | h'
        · exact .inl h'
        · right; rw [h3]; intro e; have := (h.od.lt _ e).2; omega
    fz := fun k => by rw [World.frozen?_setCell, World.frozen?_of_block (a := ⟨b, k, none⟩) hbl]; exact h.fz k
    lo := h.lo
    sb := fun k hk => by
      rcases h3 with h3 | h3
      · exact h.sb k (h3.symm.trans hk)
      · intro hs
        have := h.sz k hs
        rw [h3] at hk
        have := Option.some.inj hk
        omega
    sd := h.sd
    sz := fun k hk => by rw [World.size_setCell]; exact Nat.lt_of_lt_of_le (h.sz k hk) h2.size
    hi := by rw [World.size_setCell]; exact Nat.lt_of_lt_of_le h.hi h2.size }

theorem ckSpoil (S : Nat → Prop) (b : Nat) (c : Ck) (w : World) (h : Etr w S b c) :
    Calls Tryz.prog 197 #[.pointer (some ⟨b, 0, none⟩)] w fun e w' => e = .returned (.tuple #[]) ∧ Etr w' S b (badC c) ∧ Kp S w w' := by
  obtain ⟨vd, vb, hv⟩ := h
  have h1 := hv.st 9
  have h2 := h1.lf 0
  have h3 := h2.dg0
  have hc0 := hv.c0
  have hc1 := h1.c1
  have hc2 := h2.c2
  have hf := hv.fz
  have H3 : Hid _ := h3
  have HL : Hid (¬ S b) := hv.lo
  clear h1 h2 h3 hv
  go_enter Tryz.func197, Tryz.ntmps197
  go_wp2
  first | (refine bodyPost_ret (results_none rfl _ _ _) rfl ?_) | (refine bodyPost_end (results_none rfl _ _ _) rfl ?_)
  exact ⟨rfl, ⟨_, _, H3.out⟩, ((Kp.set HL.out _).trans (Kp.set HL.out _)).trans (Kp.set HL.out _)⟩
end Go.Proofs.YtmgmphkncgochaaGreatDoor
namespace Go.Proofs.YtmgmphkncgochaaGreatDoor
open Go.RowKit

theorem byte_ne {x y : UInt8} (h : x ≠ y) : ¬ ((x.toNat : Int) = (y.toNat : Int)) := fun e => h (UInt8.toNat_inj.1 (by omega))
theorem byte_isC {x : UInt8} {n : Nat} (h : x.toNat = n) : ((x.toNat : Int) = (n : Int)) := by omega

theorem ckExpect (S : Nat → Prop) (b : Nat) (c : Ck) (x y : UInt8) (s : Int) (w : World) (h : Etr w S b c) :
    Calls Tryz.prog 198 #[.pointer (some ⟨b, 0, none⟩), .int .u8 (x.toNat : Int), .int .u8 (y.toNat : Int), .int .i64 s] w fun e w' => e = .returned (.tuple #[]) ∧ Etr w' S b (if x.toNat = y.toNat then ⟨s, c.lf, c.dg, c.bd⟩ else badC c) ∧ Kp S w w' := by
  by_cases hx : x.toNat = y.toNat
  · rw [if_pos hx]
    obtain ⟨vd, vb, hv⟩ := h
    have h1 := hv.st s
    have hc0 := hv.c0
    have hf := hv.fz
    have hx' : (x.toNat : Int) = (y.toNat : Int) := by omega
    have H1 : Hid _ := h1
    have HL : Hid (¬ S b) := hv.lo
    clear h1 hv hx
    go_enter Tryz.func198, Tryz.ntmps198
    go_wp2
    first | (refine bodyPost_ret (results_none rfl _ _ _) rfl ?_) | (refine bodyPost_end (results_none rfl _ _ _) rfl ?_)
    exact ⟨rfl, ⟨_, _, H1.out⟩, Kp.set HL.out _⟩
  · rw [if_neg hx]
    have hx' : ¬ (x.toNat : Int) = (y.toNat : Int) := by omega
    have hs := ckSpoil S b c w h
    clear h hx
    go_enter Tryz.func198, Tryz.ntmps198
    go_wp2_with (go_at_call 197; refine hs.mono ?_; rintro e w' ⟨rfl, hE, hB⟩)
    first | (refine bodyPost_ret (results_none rfl _ _ _) rfl ?_) | (refine bodyPost_end (results_none rfl _ _ _) rfl ?_)
    exact ⟨rfl, hE, hB⟩
theorem ck_dataEnd (S : Nat → Prop) (b : Nat) (c : Ck) (x : UInt8) (w : World) (h : Etr w S b c) (hst : c.st = 4) :
    Calls Tryz.prog 186 #[.pointer (some ⟨b, 0, none⟩), .int .u8 (x.toNat : Int)] w fun e w' => e = .returned (.tuple #[]) ∧ Etr w' S b (eat1 c x) ∧ Kp S w w' := by
  have he : (if x.toNat = UInt8.toNat 13 then (⟨5, c.lf, c.dg, c.bd⟩ : Ck) else badC c) = eat1 c x := by
    by_cases hx : x.toNat = 13
    · rw [eat_4 hst hx, if_pos (show x.toNat = UInt8.toNat 13 from hx)]
    · rw [eat_4' hst hx, if_neg (show ¬ x.toNat = UInt8.toNat 13 from hx)]
  have hs := ckExpect S b c x 13 5 w h
  rw [he] at hs
  clear h he hst
  go_enter Tryz.func186, Tryz.ntmps186
  go_wp2_with (go_at_call 198; refine hs.mono ?_; rintro e w' ⟨rfl, hE, hB⟩)
  first | (refine bodyPost_ret (results_none rfl _ _ _) rfl ?_) | (refine bodyPost_end (results_none rfl _ _ _) rfl ?_)
  exact ⟨rfl, hE, hB⟩
theorem ck_dataLine (S : Nat → Prop) (b : Nat) (c : Ck) (x : UInt8) (w : World) (h : Etr w S b c) (hst : c.st = 5) :
    Calls Tryz.prog 187 #[.pointer (some ⟨b, 0, none⟩), .int .u8 (x.toNat : Int)] w fun e w' => e = .returned (.tuple #[]) ∧ Etr w' S b (eat1 c x) ∧ Kp S w w' := by
  have he : (if x.toNat = UInt8.toNat 10 then (⟨1, c.lf, c.dg, c.bd⟩ : Ck) else badC c) = eat1 c x := by
    by_cases hx : x.toNat = 10
    · rw [eat_5 hst hx, if_pos (show x.toNat = UInt8.toNat 10 from hx)]
    · rw [eat_5' hst hx, if_neg (show ¬ x.toNat = UInt8.toNat 10 from hx)]
  have hs := ckExpect S b c x 10 1 w h
  rw [he] at hs
  clear h he hst
  go_enter Tryz.func187, Tryz.ntmps187
  go_wp2_with (go_at_call 198; refine hs.mono ?_; rintro e w' ⟨rfl, hE, hB⟩)
  first | (refine bodyPost_ret (results_none rfl _ _ _) rfl ?_) | (refine bodyPost_end (results_none rfl _ _ _) rfl ?_)
  exact ⟨rfl, hE, hB⟩
theorem ck_last (S : Nat → Prop) (b : Nat) (c : Ck) (x : UInt8) (w : World) (h : Etr w S b c) (hst : c.st = 6) :
    Calls Tryz.prog 188 #[.pointer (some ⟨b, 0, none⟩), .int .u8 (x.toNat : Int)] w fun e w' => e = .returned (.tuple #[]) ∧ Etr w' S b (eat1 c x) ∧ Kp S w w' := by
  have he : (if x.toNat = UInt8.toNat 13 then (⟨7, c.lf, c.dg, c.bd⟩ : Ck) else badC c) = eat1 c x := by
    by_cases hx : x.toNat = 13
    · rw [eat_6 hst hx, if_pos (show x.toNat = UInt8.toNat 13 from hx)]
    · rw [eat_6' hst hx, if_neg (show ¬ x.toNat = UInt8.toNat 13 from hx)]
  have hs := ckExpect S b c x 13 7 w h
  rw [he] at hs
  clear h he hst
  go_enter Tryz.func188, Tryz.ntmps188
  go_wp2_with (go_at_call 198; refine hs.mono ?_; rintro e w' ⟨rfl, hE, hB⟩)
  first | (refine bodyPost_ret (results_none rfl _ _ _) rfl ?_) | (refine bodyPost_end (results_none rfl _ _ _) rfl ?_)
  exact ⟨rfl, hE, hB⟩
theorem ck_lastLine (S : Nat → Prop) (b : Nat) (c : Ck) (x : UInt8) (w : World) (h : Etr w S b c) (hst : c.st = 7) :
    Calls Tryz.prog 189 #[.pointer (some ⟨b, 0, none⟩), .int .u8 (x.toNat : Int)] w fun e w' => e = .returned (.tuple #[]) ∧ Etr w' S b (eat1 c x) ∧ Kp S w w' := by
  have he : (if x.toNat = UInt8.toNat 10 then (⟨8, c.lf, c.dg, c.bd⟩ : Ck) else badC c) = eat1 c x := by
    by_cases hx : x.toNat = 10
    · rw [eat_7 hst hx, if_pos (show x.toNat = UInt8.toNat 10 from hx)]
    · rw [eat_7' hst hx, if_neg (show ¬ x.toNat = UInt8.toNat 10 from hx)]
  have hs := ckExpect S b c x 10 8 w h
  rw [he] at hs
  clear h he hst
  go_enter Tryz.func189, Tryz.ntmps189
  go_wp2_with (go_at_call 198; refine hs.mono ?_; rintro e w' ⟨rfl, hE, hB⟩)
  first | (refine bodyPost_ret (results_none rfl _ _ _) rfl ?_) | (refine bodyPost_end (results_none rfl _ _ _) rfl ?_)
  exact ⟨rfl, hE, hB⟩
theorem ck_sizeEnd (S : Nat → Prop) (b : Nat) (c : Ck) (x : UInt8) (w : World) (h : Etr w S b c) (hst : c.st = 2) :
    Calls Tryz.prog 184 #[.pointer (some ⟨b, 0, none⟩), .int .u8 (x.toNat : Int)] w fun e w' => e = .returned (.tuple #[]) ∧ Etr w' S b (eat1 c x) ∧ Kp S w w' := by
  have hc1 : w.cell? ⟨b, 1, none⟩ = some (.int .i64 c.lf) := by obtain ⟨vd, vb, hv⟩ := h; exact hv.c1
  have he : ∀ s : Int, s = (if c.lf = 0 then 6 else 3) → (if x.toNat = UInt8.toNat 10 then (⟨s, c.lf, c.dg, c.bd⟩ : Ck) else badC c) = eat1 c x := by
    intro s hs
    subst hs
    by_cases hx : x.toNat = 10
    · rw [eat_2 hst hx, if_pos (show x.toNat = UInt8.toNat 10 from hx)]
    · rw [eat_2' hst hx, if_neg (show ¬ x.toNat = UInt8.toNat 10 from hx)]
  by_cases hl : c.lf = 0
  · have hs := ckExpect S b c x 10 6 w h
    rw [he 6 (by rw [if_pos hl])] at hs
    rw [hl] at hc1
    clear h he hst hl
    go_enter Tryz.func184, Tryz.ntmps184
    go_wp2_with (go_at_call 198; refine hs.mono ?_; rintro e w' ⟨rfl, hE, hB⟩)
    first | (refine bodyPost_ret (results_none rfl _ _ _) rfl ?_) | (refine bodyPost_end (results_none rfl _ _ _) rfl ?_)
    exact ⟨rfl, hE, hB⟩
  · have hs := ckExpect S b c x 10 3 w h
    rw [he 3 (by rw [if_neg hl])] at hs
    clear h he hst
    go_enter Tryz.func184, Tryz.ntmps184
    go_wp2_with (go_at_call 198; refine hs.mono ?_; rintro e w' ⟨rfl, hE, hB⟩)
    first | (refine bodyPost_ret (results_none rfl _ _ _) rfl ?_) | (refine bodyPost_end (results_none rfl _ _ _) rfl ?_)
    exact ⟨rfl, hE, hB⟩
end Go.Proofs.YtmgmphkncgochaaGreatDoor

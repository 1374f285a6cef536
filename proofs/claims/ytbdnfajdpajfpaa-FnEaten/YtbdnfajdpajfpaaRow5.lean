/-
  A row of bytes that a call owns, also one made out of a text; one byte appended to it.
-/
import Derived.Test.YtbdnfajdpajfpaaOwn
import Derived.Laws.Append
import Derived.Laws.IdiomStrings
namespace Go.Proofs.Ytbdnfajdpajfpaa
open Go.RowKit

/-- The value v owns the bytes l, in a block from B on, of which no cell is frozen. -/
def OwnsC (w : World) (B : Nat) (v : Value) (l : List UInt8) : Prop := (v = .slice none 0 0 ∧ l = []) ∨ ∃ g cap cur fz, v = .slice (some ⟨g, 0, none⟩) l.length cap ∧ B ≤ g ∧ w.heap[g]? = some (.cells cur 5 fz) ∧ (fz = (0, 0) ∨ cur.size ≤ fz.1) ∧ l.length ≤ cap ∧ cap ≤ maxLen ∧ cur.size = cap ∧ cur.toList.take l.length = bytesV l
theorem OwnsC.of {w : World} {B : Nat} {v : Value} {l : List UInt8} (h : OwnsB w B v l) : OwnsC w B v l := by
  rcases h.2 with ⟨hv, hn⟩ | ⟨g, cap, cur, hv, hb, hg, h1, h2, h3, h4⟩
  · exact .inl ⟨hv, List.eq_nil_of_length_eq_zero hn⟩
  · exact .inr ⟨g, cap, cur, (0, 0), hv, hb, hg, .inl rfl, h1, h2, by omega, by rw [Nat.mul_one] at h4; exact h4⟩
theorem OwnsC.nil (w : World) (B : Nat) : OwnsC w B (.slice none 0 0) [] := .inl ⟨rfl, rfl⟩
theorem OwnsC.lt {w : World} {B : Nat} {v : Value} {l : List UInt8} (h : OwnsC w B v l) : ∀ k, v.ownBlock = some k → B ≤ k ∧ k < w.heap.size := by
  intro k hk
  rcases h with ⟨rfl, _⟩ | ⟨g, cap, cur, fz, rfl, hb, hg, _⟩
  · simp [Value.ownBlock] at hk
  · simp [Value.ownBlock] at hk
    subst hk
    exact ⟨hb, (Array.getElem?_eq_some_iff.1 hg).1⟩
/-- What is owned is owned behind a step that keeps its block. -/
theorem OwnsC.kept {w w' : World} {B : Nat} {v : Value} {l : List UInt8} (h : OwnsC w B v l) (hk : ∀ k, v.ownBlock = some k → w'.heap[k]? = w.heap[k]?) : OwnsC w' B v l := by
  rcases h with h0 | ⟨g, cap, cur, fz, rfl, hb, hg, rest⟩
  · exact .inl h0
  · exact .inr ⟨g, cap, cur, fz, rfl, hb, (hk g rfl).trans hg, rest⟩
theorem OwnsC.form {w : World} {B : Nat} {v : Value} {l : List UInt8} (h : OwnsC w B v l) : ∃ a cap, v = .slice a l.length cap ∧ l.length ≤ cap ∧ cap ≤ maxLen := by
  rcases h with ⟨rfl, rfl⟩ | ⟨g, cap, cur, fz, rfl, hb, hg, _, h1, h2, _⟩
  · exact ⟨none, 0, rfl, Nat.zero_le _, Nat.zero_le _⟩
  · exact ⟨_, cap, rfl, h1, h2⟩
theorem OwnsC.cells {w : World} {B g n cap : Nat} {l : List UInt8} (h : OwnsC w B (.slice (some ⟨g, 0, none⟩) n cap) l) : ∀ j u, (bytesV l)[j]? = some u → w.cell? ((⟨g, 0, none⟩ : Addr).add j) = some u := by
  intro j u hu
  rcases h with ⟨h0, _⟩ | ⟨g', cap', cur, fz, hv, hb, hg, _, h1, h2, h3, h4⟩
  · cases h0
  · obtain ⟨rfl, rfl, rfl⟩ : g = g' ∧ n = l.length ∧ cap = cap' := by simpa using hv
    have hadd : (⟨g, 0, none⟩ : Addr).add j = ⟨g, j, none⟩ := by unfold Addr.add; split <;> simp_all
    rw [hadd, cell_of_row w g j cur 5 fz hg]
    rw [← h4, List.getElem?_take] at hu
    split at hu
    · simpa using hu
    · cases hu
/-- The owned bytes as a text. -/
theorem OwnsC.text {w : World} {B : Nat} {v : Value} {l : List UInt8} (h : OwnsC w B v l) : (convert 22 9 v).run Try.prog w = .ok (.string ⟨l.toArray⟩) w := by
  have h' := h
  rcases h with ⟨rfl, rfl⟩ | ⟨g, cap, cur, fz, rfl, hb, hg, rest⟩
  · rw [run_convert_bytes_string w 22 9 5 none 0 0 Try.underlying22 Try.underlying5 Try.underlying9]
    rfl
  · refine run_convert_bytes_back (P := Try.prog) w 22 9 5 ⟨g, 0, none⟩ cap l Try.underlying22 Try.underlying5 Try.underlying9 (fun j hj => ?_)
    exact OwnsC.cells h' j _ (by simp [bytesV, hj])
/-- A row made out of a text. -/
theorem row_of (w : World) (s : ByteArray) (hz : s.size ≤ 1048576) : ∃ (cap : Nat) (C : Array Value), (convert 9 22 (.string s)).run Try.prog w = .ok (.slice (some ⟨w.heap.size, 0, none⟩) s.size cap) (w.drew.alloc (.cells C 5 (C.size, C.size + 1))) ∧
    OwnsC (w.drew.alloc (.cells C 5 (C.size, C.size + 1))) w.heap.size (.slice (some ⟨w.heap.size, 0, none⟩) s.size cap) s.data.toList := by
  have hl : s.data.toList.length = s.size := by simp
  have hge := grownCap_ge w s.size 0 5
  have hsz : (bytesRow s (grownCap w s.size 0 5)).size = grownCap w s.size 0 5 := by
    have : (bytesRow s (grownCap w s.size 0 5)).size = s.data.size + (grownCap w s.size 0 5 - s.size) := by simp [bytesRow]
    have e : s.data.size = s.size := rfl
    omega
  refine ⟨_, _, run_bytes_of_string w 9 22 5 s Try.underlying9 Try.underlying22 Try.underlying5, .inr ⟨w.heap.size, _, _, _, by rw [hl], Nat.le_refl _, heap_alloc_new w.drew _, .inr (Nat.le_refl _), by rw [hl]; exact hge, grownCap_le_maxLen w _ _ _ (by unfold maxLen; omega), hsz, ?_⟩⟩
  refine List.ext_getElem? fun j => ?_
  by_cases hj : j < s.data.size
  · rw [List.getElem?_take]
    have hj' : j < s.data.toList.length := by simpa using hj
    rw [if_pos hj']
    have := bytesRow_at s (grownCap w s.size 0 5) j hj
    have e : s.data[j]? = some s.data[j] := Array.getElem?_eq_getElem hj
    rw [Array.getElem?_toList, this]
    unfold bytesV
    rw [List.getElem?_map, Array.getElem?_toList, e]
    rfl
  · have hj' : s.data.toList.length ≤ j := by simpa using hj
    rw [List.getElem?_eq_none (by rw [List.length_take]; omega), List.getElem?_eq_none (by rw [bytesV_length]; exact hj')]
/-- One byte appended. -/
theorem append_one (w : World) (ty : TypeId) (B : Nat) (v : Value) (l : List UInt8) (c : UInt8) (hown : OwnsC w B v l) (H : Nat) (hH : w.cell? ⟨H, 0, none⟩ = some (.int .u8 (c.toNat : Int))) (hlen : l.length ≤ 70000000000000) (hB : B ≤ w.heap.size) :
    ∃ v' w', (Builtin.append_ #[22, 22] ty #[v, .slice (some ⟨H, 0, none⟩) 1 1]).run Try.prog w = .ok v' w' ∧ OwnsC w' B v' (l ++ [c]) ∧ w.grownBy w' v.ownBlock ∧ (v'.ownBlock = v.ownBlock ∨ v'.ownBlock = some w.heap.size) := by
  obtain ⟨i0, hi, hz0, hz1, hz2⟩ := info_parts Try.info5
  have hnews : ∀ j u, ([.int .u8 (c.toNat : Int)] : List Value)[j]? = some u → w.cell? ((⟨H, 0, none⟩ : Addr).add j) = some u := by
    intro j u hu
    have : j = 0 := by
      have := (List.getElem?_eq_some_iff.1 hu).1
      simpa using this
    subst this
    simp at hu
    subst hu
    exact hH
  have grown : ∀ (old : Nat) (row : Option Nat), old < l.length + 1 → OwnsC (w.drew.alloc (.cells ((bytesV l).toArray ++ [.int .u8 (c.toNat : Int)].toArray ++ Builtin.zeroCells (Value.cells (.int .u8 0)) (grownCap w (l.length + 1) old 5 - (l.length + 1))) 5)) B (.slice (some ⟨w.heap.size, 0, none⟩) (l.length + 1) (grownCap w (l.length + 1) old 5)) (l ++ [c]) ∧
      w.grownBy (w.drew.alloc (.cells ((bytesV l).toArray ++ [.int .u8 (c.toNat : Int)].toArray ++ Builtin.zeroCells (Value.cells (.int .u8 0)) (grownCap w (l.length + 1) old 5 - (l.length + 1))) 5)) row := by
    intro old row ho
    have hge := grownCap_ge w (l.length + 1) old 5
    have hcm : grownCap w (l.length + 1) old 5 ≤ maxLen := grownCap_le_maxLen w (l.length + 1) old 5 (by unfold maxLen; omega)
    refine ⟨.inr ⟨w.heap.size, _, _, (0, 0), by simp, hB, heap_alloc_new w.drew _, .inl rfl, by simpa using hge, hcm, ?_, ?_⟩, ⟨rfl, rfl, rfl, by simp, fun k hk _ => Below.heap_alloc w.drew _ k hk⟩⟩
    · have e1 : (Value.cells (.int .u8 0)).size = 1 := rfl
      simp only [Array.size_append, List.size_toArray, size_zeroCells, e1, bytesV_length, List.length_singleton]
      omega
    · rw [bytesV_snoc]
      simp only [Array.toList_append, List.append_assoc]
      rw [← List.append_assoc]
      refine List.take_left' ?_
      simp [bytesV_length]
  rcases hown with ⟨rfl, rfl⟩ | ⟨g, cap, cur, fz, rfl, hb, hg, hfz, h1, h2, h3, h4⟩
  · have hr := run_append_nil (P := Try.prog) w 22 ty 5 i0 (.int .u8 0) Try.underlying22 hi hz0 ⟨H, 0, none⟩ 1 1 [.int .u8 (c.toNat : Int)] (by rw [hz1]; rfl) hnews (by omega) (by omega) (by rw [hz2]; omega)
    obtain ⟨g1, g2⟩ := grown 0 none (by simp)
    exact ⟨_, _, hr, by simpa [bytesV] using g1, by rw [show Value.ownBlock (.slice none 0 0) = none from rfl]; simpa [bytesV] using g2, .inr rfl⟩
  · by_cases hroom : l.length + 1 ≤ cap
    · have hn : l.length < cur.size := by omega
      have hcell : w.cell? ⟨g, l.length, none⟩ = some cur[l.length] := by simp [World.cell?, hg, hn]
      have hfro : w.frozen? ⟨g, l.length, none⟩ = false := by
        obtain ⟨lo, hi⟩ := fz
        simp only [World.frozen?, hg, Bool.and_eq_false_iff, decide_eq_false_iff_not]
        rcases hfz with h | h
        · right
          have : hi = 0 := (Prod.mk.inj h).2
          omega
        · left
          simp only at h
          omega
      have hst : (storeCells ⟨g, l.length, none⟩ [.int .u8 (c.toNat : Int)] 0).run Try.prog w = .ok () (w.setCell ⟨g, l.length, none⟩ (.int .u8 (c.toNat : Int))) := by
        have hadd : (⟨g, l.length, none⟩ : Addr).add 0 = ⟨g, l.length, none⟩ := rfl
        have hs1 : (store (⟨g, l.length, none⟩ : Addr) (.int .u8 (c.toNat : Int))).run Try.prog w = .ok () (w.setCell ⟨g, l.length, none⟩ (.int .u8 (c.toNat : Int))) := by
          rw [run_store Try.prog w _ _ _ rfl, hcell]
          simp [hfro]
        simp only [storeCells, Sem.run_bind, hadd, hs1, Result.andThen_ok]
        rfl
      have hf := run_firstCells_some (P := Try.prog) w i0.size 1 ⟨H, 0, none⟩ 1 1 [.int .u8 (c.toNat : Int)] (by rw [hz1]; rfl) hnews
      have hr : (Builtin.append_ #[22, 22] ty #[.slice (some ⟨g, 0, none⟩) l.length cap, .slice (some ⟨H, 0, none⟩) 1 1]).run Try.prog w = .ok (.slice (some ⟨g, 0, none⟩) (l.length + 1) cap) (w.setCell ⟨g, l.length, none⟩ (.int .u8 (c.toNat : Int))) := by
        rw [hz1] at hf
        simp [Builtin.append_, run_underlying Try.underlying22, sizeOf, typeInfo, hi, Builtin.lenOf, hroom, hz1, hf, Addr.add_lit, hst]
      have hset : (w.setCell ⟨g, l.length, none⟩ (.int .u8 (c.toNat : Int))) = w.setRow g (cur.setIfInBounds l.length (.int .u8 (c.toNat : Int))) := setCell_eq_setRow w g l.length cur 5 fz _ hg
      refine ⟨_, _, hr, .inr ⟨g, cap, cur.setIfInBounds l.length (.int .u8 (c.toNat : Int)), fz, by simp, hb, by rw [hset]; exact setRow_heap w g cur _ 5 _ hg, by simpa using hfz, by simpa using hroom, h2, by simpa using h3, ?_⟩, ⟨rfl, rfl, rfl, by simp, fun k _ hk => Below.heap_setCell w ⟨g, l.length, none⟩ _ k (fun e => hk (by simp [Value.ownBlock, e]))⟩, .inl rfl⟩
      rw [bytesV_snoc, ← h4, Array.toList_setIfInBounds, List.length_append, List.length_singleton, List.take_set, List.take_succ_eq_append_getElem (by simpa using hn)]
      rw [List.set_append_right _ _ (by rw [List.length_take]; exact Nat.min_le_left _ _)]
      simp [Nat.min_eq_left (Nat.le_of_lt hn)]
    · have hold : OwnsC w B (.slice (some ⟨g, 0, none⟩) l.length cap) l := .inr ⟨g, cap, cur, fz, rfl, hb, hg, hfz, h1, h2, h3, h4⟩
      have hr := run_append_grow (P := Try.prog) w 22 ty 5 i0 (.int .u8 0) Try.underlying22 hi hz0 ⟨g, 0, none⟩ l.length cap (bytesV l) (by rw [hz1, bytesV_length]; omega) hold.cells ⟨H, 0, none⟩ 1 1 [.int .u8 (c.toNat : Int)] (by rw [hz1]; rfl) hnews (by omega) (by omega) (by rw [hz2]; exact growslice_fits (by omega) (by omega))
      obtain ⟨g1, g2⟩ := grown cap (some g) (by omega)
      exact ⟨_, _, hr, g1, g2, .inr rfl⟩
/-- One byte appended, as a step of a walk. -/
theorem wpList_pushC {ops : Array Oper} {rest : List Oper} {o : Oper} {a : Act} {Q : Exit → Act → World → Prop} (w : World) (hgd : o.guard = none) (s x : Operand)
    (ho : o.op = .call { callee := .builtin .append, args := #[s, x], argTypes := #[22, 22] }) (B : Nat) (v : Value) (l : List UInt8) (n : Int) (c : UInt8) (hc : n = (c.toNat : Int)) (hs : a.eval s = v) (hown : OwnsC w B v l)
    (hx : a.eval x = .slice (some ⟨w.heap.size, 0, none⟩) 1 1) (hlen : l.length ≤ 70000000000000) (hB : B ≤ w.heap.size)
    (h : ∀ v' w', OwnsC w' B v' (l ++ [c]) → w.grownBy w' v.ownBlock → (v'.ownBlock = v.ownBlock ∨ v'.ownBlock = some (w.heap.size + 1)) → wpList Try.prog ops Q rest (a.put o.dst v') w') :
    wpList Try.prog ops Q (o :: rest) a (w.alloc (.cells #[.int .u8 n] 5)) := by
  subst hc
  have hk : ∀ k, v.ownBlock = some k → (w.alloc (.cells #[.int .u8 (c.toNat : Int)] 5)).heap[k]? = w.heap[k]? := fun k hk => Below.heap_alloc _ _ _ (hown.lt k hk).2
  obtain ⟨v', w', hr, h1, h2, h3⟩ := append_one (w.alloc (.cells #[.int .u8 (c.toNat : Int)] 5)) o.type B v l c (hown.kept hk) w.heap.size (by rw [World.cell?_alloc_mark]; rfl) hlen (by simp; omega)
  refine wpList_plain hgd fun K hK => ?_
  unfold Oper.wp execOp
  simp only [ho, resolve, invoke, builtin, Sem.run_bind, Sem.run_pure, Result.andThen_ok, List.map_toArray, List.map_cons, List.map_nil, hs, hx, hr]
  refine hK _ _ (h v' w' h1 ⟨h2.os, h2.tape, h2.output, ?_, ?_⟩ ?_)
  · have := h2.size
    simp at this
    omega
  · intro k hk' hne
    rw [h2.block k (by simp; omega) hne]
    exact Below.heap_alloc _ _ _ hk'
  · rcases h3 with h3 | h3
    · exact .inl h3
    · exact .inr (by rw [h3]; simp)
end Go.Proofs.Ytbdnfajdpajfpaa

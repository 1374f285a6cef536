/-
  A row of bytes that a call makes, writes into and cuts; and append of a part of such a row, as one step of a region that draws.
-/
import Derived.Test.YtfflifhcbfoliaaDoorDrw2
import Derived.Lib.OthersKept
import Derived.Deep.RegionLaw
namespace Go.Proofs.YtfflifhcbfoliaaDoor
open Go.RowKit Go.Sort

/-- The row of block B holds the bytes of l, none of them frozen. -/
def RowIs (w : World) (B : Nat) (l : List UInt8) : Prop := ∀ j (h : j < l.length), w.cell? ⟨B, j, none⟩ = some (.int .u8 (l[j].toNat : Int)) ∧ w.frozen? ⟨B, j, none⟩ = false
/-- What '[]byte(s)' lays, told by what it is good for. -/
theorem bytes_laid {P : Program} (w : World) (src dst e : TypeId) (s : ByteArray) (hs : P.underlying src = some .string) (hd : P.underlying dst = some (.slice e)) (he : P.underlying e = some (.int .u8)) :
    ∃ (cap : Nat) (C : Array Value), (convert src dst (.string s)).run P w = .ok (.slice (some ⟨w.heap.size, 0, none⟩) s.size cap) (w.drew.alloc (.cells C e (C.size, C.size + 1))) ∧
      RowIs (w.alloc (.cells C e (C.size, C.size + 1))) w.heap.size s.data.toList := by
  refine ⟨_, _, run_bytes_of_string w src dst e s hs hd he, ?_⟩
  intro j hj
  have hj' : j < s.data.size := by simpa using hj
  have hz : j < (bytesRow s (grownCap w s.size 0 e)).size := by
    have : (bytesRow s (grownCap w s.size 0 e)).size = s.data.size + (grownCap w s.size 0 e - s.size) := by simp [bytesRow]
    omega
  refine ⟨?_, ?_⟩
  · rw [World.cell?_alloc_mark, bytesRow_at s _ j hj']
    rfl
  · rw [World.frozen?_alloc_mark]
    simp
    omega
theorem info5b : (Tryd.prog.info? 5).map (fun i => (i.zero, i.size, i.bytes)) = some (some (.int .u8 0), 1, 1) := by kernel_rfl
/-- Bytes as cells. -/
def bytesV (l : List UInt8) : List Value := l.map fun c => .int .u8 (c.toNat : Int)
theorem bytesV_length (l : List UInt8) : (bytesV l).length = l.length := by simp [bytesV]
/-- The value v owns the bytes l, in a block from B on. -/
def OwnsB (w : World) (B : Nat) (v : Value) (l : List UInt8) : Prop := w.ownsRow B 5 1 v l.length (bytesV l)
theorem OwnsB.alloc {w : World} {B : Nat} {v : Value} {l : List UInt8} (h : OwnsB w B v l) (o : Obj) : OwnsB (w.alloc o) B v l := World.ownsRow.alloc h o
theorem OwnsB.drew {w : World} {B : Nat} {v : Value} {l : List UInt8} (h : OwnsB w B v l) : OwnsB w.drew B v l := h
theorem OwnsB.from {w : World} {B : Nat} {v : Value} {l : List UInt8} (h : OwnsB w B v l) : ∀ k, v.ownBlock = some k → B ≤ k := fun k hk => (World.ownsRow.lt h k hk).1
theorem OwnsB.low {w : World} {B B' : Nat} {v : Value} {l : List UInt8} (h : OwnsB w B v l) (hB : B' ≤ B) : OwnsB w B' v l := by
  refine ⟨h.1, ?_⟩
  rcases h.2 with h0 | ⟨g, cap, cur, hv, hb, hg, rest⟩
  · exact .inl h0
  · exact .inr ⟨g, cap, cur, hv, by omega, hg, rest⟩
/-- What was owned before is owned behind a step that keeps all blocks below n, if its own block lies there. -/
theorem OwnsB.kept {w w' : World} {B : Nat} {v : Value} {l : List UInt8} (h : OwnsB w B v l) (hb : Below w.heap.size w w') : OwnsB w' B v l := by
  refine ⟨h.1, ?_⟩
  rcases h.2 with h0 | ⟨g, cap, cur, hv, hbg, hg, rest⟩
  · exact .inl h0
  · exact .inr ⟨g, cap, cur, hv, hbg, by rw [hb.block g (Array.getElem?_eq_some_iff.1 hg).1]; exact hg, rest⟩
theorem OwnsB.empty (w : World) : OwnsB (w.alloc (.cells #[] 5)) w.heap.size (.slice (some ⟨w.heap.size, 0, none⟩) 0 0) [] :=
  World.ownsRow_lit w #[] 0 (Nat.le_refl _) (by unfold maxLen; decide) rfl
theorem byte_back {x : Int} (h0 : 0 ≤ x) (h1 : x ≤ 255) : x = ((UInt8.ofNat x.toNat).toNat : Int) := by
  rw [UInt8.toNat_ofNat', Nat.mod_eq_of_lt (by omega)]
  omega

theorem addr_add (g o j : Nat) : (⟨g, o, none⟩ : Addr).add j = ⟨g, o + j, none⟩ := by
  unfold Addr.add
  by_cases e : j = 0
  · subst e; simp
  · simp [e]
/-- A row of bytes l in a block from B on, which v is. -/
def Rw (w : World) (B : Nat) (v : Value) (l : List UInt8) : Prop := ∃ g cap, v = .slice (some ⟨g, 0, none⟩) l.length cap ∧ B ≤ g ∧ g < w.heap.size ∧ l.length ≤ cap ∧ cap ≤ maxLen ∧ RowIs w g l
theorem RowIs.same {w w' : World} {g : Nat} {l : List UInt8} (h : RowIs w g l) (hb : w'.heap[g]? = w.heap[g]?) : RowIs w' g l := fun j hj =>
  ⟨(World.cell?_of_block (w := w) (a := ⟨g, j, none⟩) hb).trans (h j hj).1, (World.frozen?_of_block (w := w) (a := ⟨g, j, none⟩) hb).trans (h j hj).2⟩
theorem Rw.beside {w w' : World} {B b : Nat} {v : Value} {l : List UInt8} (h : Rw w B v l) (hb : Beside b w w') (hB : b < B) : Rw w' B v l := by
  obtain ⟨g, cap, rfl, h1, h2, h3, h4, h5⟩ := h
  exact ⟨g, cap, rfl, h1, Nat.lt_of_lt_of_le h2 hb.2.2.2.1, h3, h4, h5.same (hb.2.2.2.2 g h2 (by omega))⟩
theorem RowIs.take {w : World} {g : Nat} {l : List UInt8} (h : RowIs w g l) (k : Nat) : RowIs w g (l.take k) := fun j hj => by
  have hj' : j < l.length := by rw [List.length_take] at hj; omega
  have := h j hj'
  rw [List.getElem_take]
  exact this
theorem Rw.text {w : World} {B : Nat} {v : Value} {l : List UInt8} (h : Rw w B v l) : (convert 22 9 v).run Tryd.prog w = .ok (.string ⟨l.toArray⟩) w := by
  obtain ⟨g, cap, rfl, h1, h2, h3, h4, h5⟩ := h
  exact run_convert_bytes_back (P := Tryd.prog) w 22 9 5 ⟨g, 0, none⟩ cap l Tryd.underlying22 Tryd.underlying5 Tryd.underlying9 (fun j hj => by
    rw [addr_add, Nat.zero_add]
    exact (h5 j hj).1)
theorem Rw.of {w : World} {B : Nat} {v : Value} {l : List UInt8} (h : OwnsB w B v l) (hv : v ≠ .slice none 0 0) : Rw w B v l := by
  have hh := h
  rcases h.2 with ⟨h0, _⟩ | ⟨g, cap, cur, rfl, hb, hg, hc, hm, rest⟩
  · exact absurd h0 hv
  · refine ⟨g, cap, rfl, hb, (Array.getElem?_eq_some_iff.1 hg).1, hc, hm, fun j hj => ⟨?_, World.ownsRow.frozenAt hh j⟩⟩
    have := World.ownsRow.cells hh (g := g) rfl j (.int .u8 (l[j].toNat : Int)) (by simp [bytesV, hj])
    rw [addr_add, Nat.zero_add] at this
    exact this
/-- Some bytes appended to an owned row, as one step. -/
theorem step_own {ops : Array Oper} {o : Oper} {a : Act} {w : World} {K : Act → World → Prop} {Q : Exit → Act → World → Prop} {E : Prop} (hg : o.guard = none) (s x : Operand)
    (ho : o.op = .call { callee := .builtin .append, args := #[s, x], argTypes := #[22, 22] }) (B : Nat) (v : Value) (l : List UInt8) (hs : a.eval s = v) (hown : OwnsB w B v l)
    (ad : Addr) (c : Nat) (news : List UInt8) (hx : a.eval x = .slice (some ad) news.length c) (hnews : ∀ j (h : j < news.length), w.cell? (ad.add j) = some (.int .u8 (news[j].toNat : Int)))
    (hlen : l.length + news.length ≤ 1000000) (hB : B ≤ w.heap.size)
    (h : ∀ v' w', OwnsB w' B v' (l ++ news) → w.grownBy w' v.ownBlock → (v ≠ .slice none 0 0 → v' ≠ .slice none 0 0) → K (a.put o.dst v') w') :
    if Region.wanted o (yielded ops a.tmps) = true then Oper.wp Tryd.prog o a w K Q else E := by
  have hw : Region.wanted o (yielded ops a.tmps) = true := by simp [Region.wanted, hg]
  rw [if_pos hw]
  obtain ⟨i0, hi, hz0, hz1, hz2⟩ := info_parts info5b
  refine wp_append_own w s x 22 ho B 5 i0 (.int .u8 0) 1 1 Tryd.underlying22 hi hz0 hz1 hz2 rfl (by decide) v l.length (bytesV l) hs hown ad news.length c (bytesV news) hx (by simp [bytesV]) (fun j u hu => ?_)
    (by intro u hu; simp [bytesV] at hu; obtain ⟨c, _, rfl⟩ := hu; rfl) (by unfold maxLen; omega) (by omega) hB ?_
  · have hj : j < news.length := by
      have := (List.getElem?_eq_some_iff.1 hu).1
      simpa [bytesV] using this
    rw [hnews j hj]
    simp [bytesV, hj] at hu
    rw [hu]
  · intro v' w' h1 h2 h3
    refine h v' w' ?_ h2 (fun hv hv' => hv (h3.1 hv').1)
    unfold OwnsB bytesV
    rw [List.map_append, List.length_append]
    exact h1
end Go.Proofs.YtfflifhcbfoliaaDoor

/-
  Drawn traces and rooms: whatever the code, few numbers.
-/
import Derived.Test.YtdoolnaekmffbaaRomA
import Derived.Test.YtdoolnaekmffbaaDrT
namespace Go.Proofs.Ytdoolnaekmffbaa
open Go.RowKit Go.Sort Rom
set_option linter.unusedVariables false
set_option linter.unusedSimpArgs false

theorem OwnsE.bsN {α : Type} {E : Enc α} {ty : TypeId} {w w' : World} {B b : Nat} {v : Value} {l : List α} (h : OwnsE E ty w B v l) (hb : Beside b w w') (hB : b < B) : OwnsE E ty w' B v l := by
  refine ⟨h.1, ?_⟩
  rcases h.2 with h0 | ⟨g, cap, cur, hv, hbg, hg, rest⟩
  · exact .inl h0
  · exact .inr ⟨g, cap, cur, hv, hbg, by rw [hb.2.2.2.2 g (Array.getElem?_eq_some_iff.1 hg).1 (by omega)]; exact hg, rest⟩
theorem Cur.moreN {w : World} {b : Nat} {sa : Option Addr} {sl sc : Nat} (h : Cur w b sa sl sc) (o : Obj) : Cur (w.alloc o) b sa sl sc := h.kept ((Below.refl _ w).alloc (Nat.le_refl _) _) h.2.2.1
theorem Beside.moreN {g : Nat} {a w : World} (h : Beside g a w) (o : Obj) : Beside g a (w.alloc o) := h.below ((Below.refl _ w).alloc (Nat.le_refl _) _)
theorem l1FromN (b : Nat) (sa : Option Addr) (sl sc : Nat) (lo hi : Int) (h1 : -1000 ≤ lo) (h2 : lo ≤ hi) (h3 : hi ≤ 1000) (w : World) (hc : Cur w b sa sl sc) :
    Calls Try.prog 55 #[.pointer (some ⟨b, 0, Option.none⟩), .int .i64 lo, .int .i64 hi] w fun e w' => ∃ x : Int, e = .returned (.int .i64 x) ∧ lo ≤ x ∧ x ≤ hi ∧ Cur w' b sa sl sc ∧ Beside b w w' := by
  have e1 : IntKind.i64.wrap (hi - lo) = hi - lo := by rw [IntKind.wrap_i64]; omega
  have e2 : IntKind.i64.wrap (hi - lo + 1) = hi - lo + 1 := by rw [IntKind.wrap_i64]; omega
  have hB := fun W hW => l1Below b sa sl sc (hi - lo + 1) (by omega) (by omega) W hW
  go_enter Try.func55, Try.ntmps55
  go_wp2_with fail
  refine (hB _ hc).mono ?_
  rintro e w1 ⟨x, rfl, hx0, hx1, hc1, hb1⟩
  have e3 : IntKind.i64.wrap (lo + x) = lo + x := by rw [IntKind.wrap_i64]; omega
  clear hB hc
  go_wp2
  go_ret
  exact ⟨_, rfl, by omega, by omega, hc1, hb1⟩
/-- One more drawn number behind those that there are. -/
theorem drawn_pushN {w w4 w6 : World} {b : Nat} {sa : Option Addr} {sl sc : Nat} {v : Value} {l : List Int} (hc : Cur w4 b sa sl sc) (hb : Beside b w w4) (hbz : b < w.heap.size) (hown : OwnsN w4 w.heap.size v l) (hg : w4.grownBy w6 v.ownBlock) : Cur w6 b sa sl sc ∧ Beside b w w6 := by
  have h1 : Below w.heap.size w4 w6 := belowE (Below.refl _ w4) hg hb.2.2.2.1 hown.from
  exact ⟨hc.kept h1 hbz, hb.grow h1 (Nat.le_refl _)⟩
def isIN (v : Value) : Bool := match v with | .int .i64 z => decide (-9223372036854775808 ≤ z ∧ z ≤ 9223372036854775807) | _ => false
theorem isIN_out {v : Value} (h : isIN v = true) : ∃ z : Int, v = .int .i64 z ∧ -9223372036854775808 ≤ z ∧ z ≤ 9223372036854775807 := by
  unfold isIN at h
  split at h
  · exact ⟨_, rfl, of_decide_eq_true h⟩
  · cases h
theorem tabIN {b : Nat} {w w' : World} {C : Array Value} {t : TypeId} (hb : Beside b (w.alloc (.cells C t)) w') (hne : w.heap.size ≠ b) (y : Nat) (hy : y < C.size) (hall : C.toList.all isIN = true) : ∃ z : Int, w'.cell? ⟨w.heap.size, y, Option.none⟩ = some (.int .i64 z) ∧ -9223372036854775808 ≤ z ∧ z ≤ 9223372036854775807 := by
  have hm : C[y] ∈ C.toList := by simp
  obtain ⟨z, hz, hs⟩ := isIN_out (List.all_eq_true.1 hall _ hm)
  refine ⟨z, besideCell hb hne ?_, hs⟩
  rw [World.cell?_alloc_mark, Array.getElem?_eq_getElem hy, hz]
theorem slN_of {w : World} {B : Nat} {v : Value} {l : List Int} (h : OwnsN w B v l) (hl : 0 < l.length) : ∃ g c, v = .slice (some ⟨g, 0, Option.none⟩) l.length c := by
  obtain ⟨a, c, rfl, h1, h2, h3⟩ := h.form
  rcases h3 with ⟨rfl, rfl⟩ | ⟨g, rfl⟩
  · exfalso
    rcases h.2 with ⟨_, e⟩ | ⟨g, cap, cur, e, _⟩
    · omega
    · cases e
  · exact ⟨g, c, rfl⟩
end Go.Proofs.Ytdoolnaekmffbaa

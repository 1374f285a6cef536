/-
  The laws' own copies and comparisons of requests and responses, by their contracts.
  The laws' own copies and comparisons of objects, by their contracts.
  Objects in memory: all cells stored; fields that came in, appended to a row of one's own.
  The specification's line of fields by its contract; one field appended in a region that draws its order. (For seats that lack the program's own reading of fields.)
-/
import Derived.Test.YtemmgfnepdgpbaaGreatDoorK22
import Derived.Test.YtemmgfnepdgpbaaGreatDoorK16
import Derived.Test.YtemmgfnepdgpbaaGreatDoorK17
import Derived.Laws.Append
import Derived.Test.YtemmgfnepdgpbaaGreatDoorK21
import Derived.Laws.AppendOwnNone
import Derived.Test.YtemmgfnepdgpbaaGreatDoorK11
import Derived.Test.YtemmgfnepdgpbaaGreatDoorK14
import Derived.WalkKit
import Derived.WalkSpells
namespace Go.Proofs.YtemmgfnepdgpbaaGreatDoor
open Go.RowKit Go.Sort
set_option linter.unusedVariables false

theorem OwnsF.far {w : World} {B b k : Nat} {v : Value} {l : List Fl} (h : OwnsF w B v l) (hb : b < B) (x : Value) : OwnsF (w.setCell ⟨b, k, none⟩ x) B v l := by
  refine ⟨h.1, ?_⟩
  rcases h.2 with h0 | ⟨g, cap, cur, hv, hbg, hg, rest⟩
  · exact .inl h0
  · exact .inr ⟨g, cap, cur, hv, hbg, by rw [Below.heap_setCell _ _ _ _ (by show g ≠ b; omega)]; exact hg, rest⟩
end Go.Proofs.YtemmgfnepdgpbaaGreatDoor
namespace Go.Proofs.YtemmgfnepdgpbaaGreatDoor
open Go.RowKit Go.Sort
set_option linter.unusedVariables false

def noO : Ob := ⟨⟨#[]⟩, [], noS, 0, 0, 0⟩
theorem ObB.alloc {w : World} {b : Nat} {o : Ob} {v u : Value} (h : ObB w b o v u) (x : Obj) : ObB (w.alloc x) b o v u := h.next ((Below.refl _ w).alloc (Nat.le_refl _) _)
theorem ObB.far {w : World} {b c k : Nat} {o : Ob} {v u : Value} (h : ObB w b o v u) (hc : c ≠ b) (x : Value) : ObB (w.setCell ⟨c, k, none⟩ x) b o v u := by
  have e : ∀ j, (w.setCell ⟨c, k, none⟩ x).cell? ⟨b, j, none⟩ = w.cell? ⟨b, j, none⟩ := fun j => World.cell?_setCell_other _ _ _ _ (fun e => hc (by injection e))
  exact ⟨(e 0).trans h.c0, (e 1).trans h.c1, (e 2).trans h.c2, (e 3).trans h.c3, (e 4).trans h.c4, (e 5).trans h.c5, (e 6).trans h.c6, (e 7).trans h.c7, fun j => by rw [World.frozen?_setCell]; exact h.fz j, by rw [World.size_setCell]; exact h.hi⟩
end Go.Proofs.YtemmgfnepdgpbaaGreatDoor
namespace Go.Proofs.YtemmgfnepdgpbaaGreatDoor
open Go.RowKit Go.Sort
set_option linter.unusedVariables false

def obL (o : Ob) (v u : Value) : List Value := [.string o.k, v, .int .i64 o.r.s, u, .string o.r.b, .int .i64 o.asked, .int .i64 o.got, .int .i64 o.ep]
theorem ObB.puts {w : World} {b : Nat} {o : Ob} {v u : Value} (h : ObB w b o v u) (o' : Ob) (v' u' : Value) : ObB (putL w b (obL o' v' u') 0) b o' v' u' := by
  have k := fun i => (putL_cells (w0 := w) b (obL o' v' u') 0 w (fun j _ h2 => by
    have h3 : j < 8 := by simpa [obL] using h2
    rcases (show j = 0 ∨ j = 1 ∨ j = 2 ∨ j = 3 ∨ j = 4 ∨ j = 5 ∨ j = 6 ∨ j = 7 by omega) with rfl | rfl | rfl | rfl | rfl | rfl | rfl | rfl
    · exact ⟨_, h.c0⟩
    · exact ⟨_, h.c1⟩
    · exact ⟨_, h.c2⟩
    · exact ⟨_, h.c3⟩
    · exact ⟨_, h.c4⟩
    · exact ⟨_, h.c5⟩
    · exact ⟨_, h.c6⟩
    · exact ⟨_, h.c7⟩) i).1
  exact ⟨k 0 _ ⟨rfl, by omega⟩, k 1 _ ⟨rfl, by omega⟩, k 2 _ ⟨rfl, by omega⟩, k 3 _ ⟨rfl, by omega⟩, k 4 _ ⟨rfl, by omega⟩, k 5 _ ⟨rfl, by omega⟩, k 6 _ ⟨rfl, by omega⟩, k 7 _ ⟨rfl, by omega⟩, fun j => by rw [putL_frozen]; exact h.fz j, by rw [putL_size]; exact h.hi⟩
theorem ObB.same {w w' : World} {b : Nat} {o : Ob} {v u : Value} (h : ObB w b o v u) (e : w'.heap[b]? = w.heap[b]?) (hs : w.heap.size ≤ w'.heap.size) : ObB w' b o v u := by
  have k : ∀ k, w'.cell? ⟨b, k, none⟩ = w.cell? ⟨b, k, none⟩ := fun k => World.cell?_of_block (a := ⟨b, k, none⟩) e
  exact ⟨(k 0).trans h.c0, (k 1).trans h.c1, (k 2).trans h.c2, (k 3).trans h.c3, (k 4).trans h.c4, (k 5).trans h.c5, (k 6).trans h.c6, (k 7).trans h.c7, fun j => (World.frozen?_of_block (a := ⟨b, j, none⟩) e).trans (h.fz j), Nat.lt_of_lt_of_le h.hi hs⟩
theorem RsB.same {w w' : World} {b : Nat} {r : Rs} {v : Value} (h : RsB w b r v) (e : w'.heap[b]? = w.heap[b]?) (hs : w.heap.size ≤ w'.heap.size) : RsB w' b r v := by
  have k : ∀ k, w'.cell? ⟨b, k, none⟩ = w.cell? ⟨b, k, none⟩ := fun k => World.cell?_of_block (a := ⟨b, k, none⟩) e
  exact ⟨(k 0).trans h.c0, (k 1).trans h.c1, (k 2).trans h.c2, fun j => (World.frozen?_of_block (a := ⟨b, j, none⟩) e).trans (h.fz j), Nat.lt_of_lt_of_le h.hi hs⟩
theorem szL_flds {l : List Fl} (h : fldsOk l = true) : szL l ≤ 13920 := by
  obtain ⟨h1, h2⟩ := fldsOk_parts h
  have : ∀ m : List Fl, (∀ f ∈ m, fldOk f = true) → szL m ≤ m.length * 464 := by
    intro m
    induction m with
    | nil => intro _; exact Nat.zero_le _
    | cons f m ih =>
      intro hm
      have k1 := fldOk_size (hm f (by simp))
      have k2 := ih fun g hg => hm g (by simp [hg])
      have e : szL (f :: m) = szF f + szL m := by simp [szL]
      rw [e, List.length_cons]
      unfold szF
      omega
  have k := this l h2
  omega
end Go.Proofs.YtemmgfnepdgpbaaGreatDoor
namespace Go.Proofs.YtemmgfnepdgpbaaGreatDoor
open Go.RowKit Go.Sort Go.Maps

theorem ieq_yes4 {a b : Int} (h : a = b) : (a == b) = true := by simp [h]
theorem ieq_no4 {a b : Int} (h : a ≠ b) : (a == b) = false := by simp [h]
set_option maxHeartbeats 1000000 in
theorem specLin4 (s : ByteArray) (k : Nat) (w : World) (hk : k ≤ s.size) (hs : s.size ≤ 2000000) :
    Calls Tryz.prog 80 #[.string s, .int .i64 k] w fun e w' => e = .returned (lineE s (lnS (s.data.toList.drop k))) ∧ w = w' := by
  go_enter Tryz.func80, Tryz.ntmps80
  go_wp2
  go_loopw [7] (fun i wr => ∃ j : Nat, k ≤ j ∧ j ≤ s.size ∧ i = .int .i64 j ∧ Hid (LnAt s k j) ∧ wr = w) (fun i _ => s.size - (intOf i).toNat)
  case atStart => exact ⟨k, Nat.le_refl _, hk, rfl, LnAt.start s k, rfl⟩
  case round =>
    obtain ⟨j, hkj, hj, rfl, hat, rfl⟩ := hrel
    by_cases hlt : j < s.size
    · by_cases h10 : (s[j].toNat : Int) = 10
      · have HN : Hid (lnS (s.data.toList.drop k) = none) := hat.out.ten hlt (byte_is h10)
        have hq := ieq_yes4 h10
        clear h10
        go_wp2
        go_ret3
        exact ⟨lineE_none HN.out, rfl⟩
      · have hq := ieq_no4 h10
        by_cases h13 : (s[j].toNat : Int) = 13
        · have hq3 := ieq_yes4 h13
          by_cases hj1 : j + 1 < s.size
          · by_cases hn : (s[j + 1].toNat : Int) = 10
            · have HN : Hid (lnS (s.data.toList.drop k) = some (cutL s.data.toList k j, s.data.toList.drop (j + 2))) := hat.out.found hj1 (byte_is h13) (byte_is hn)
              have hqn := ieq_yes4 hn
              clear h10 h13 hn
              go_wp2
              go_ret3
              exact ⟨lineE_some HN.out hj1, rfl⟩
            · have HN : Hid (lnS (s.data.toList.drop k) = none) := hat.out.lone hlt (byte_is h13) (fun _ e => hn (by rw [e]; rfl))
              have hqn := ieq_no4 hn
              clear h10 h13 hn
              go_wp2
              go_ret3
              exact ⟨lineE_none HN.out, rfl⟩
          · have HN : Hid (lnS (s.data.toList.drop k) = none) := hat.out.lone hlt (byte_is h13) (fun h => absurd h hj1)
            have hd : decide ((j : Int) + 1 < (s.size : Int)) = false := decide_eq_false (by omega)
            clear h10 h13
            go_wp2
            go_ret3
            exact ⟨lineE_none HN.out, rfl⟩
        · have hq3 := ieq_no4 h13
          have HN : Hid (LnAt s k (j + 1)) := hat.out.next hlt hkj (fun e => h13 (by rw [e]; rfl)) (fun e => h10 (by rw [e]; rfl))
          clear h10 h13
          go_wp2
          go_roundw
          case rel => exact ⟨j + 1, by omega, by omega, by go_num, HN, trivial⟩
          case measure => simp [intOf]; omega
    · have HN : Hid (lnS (s.data.toList.drop k) = none) := hat.out.done hlt
      go_wp2
      go_ret3
      exact ⟨lineE_none HN.out, rfl⟩

/-- One field appended to an owned slice, as one step of a region that draws its order. -/
theorem step_pushF4 {ops : Array Oper} {o : Oper} {a : Act} {w : World} {K : Act → World → Prop} {Q : Exit → Act → World → Prop} {E : Prop} (hgd : o.guard = none) (s x : Operand)
    (ho : o.op = .call { callee := .builtin .append, args := #[s, x], argTypes := #[24, 24] }) (B : Nat) (v : Value) (l : List Fl) (f : Fl) (hs : a.eval s = v) (hown : OwnsF w B v l)
    (b : Nat) (hx : a.eval x = .slice (some ⟨b, 0, none⟩) 1 1) (c0 : w.cell? ⟨b, 0, none⟩ = some (.string f.1)) (c1 : w.cell? ⟨b, 1, none⟩ = some (.string f.2)) (hlen : l.length ≤ 1000000000000) (hB : B ≤ w.heap.size)
    (h : ∀ v' w', OwnsF w' B v' (l ++ [f]) → w.grownBy w' v.ownBlock → K (a.put o.dst v') w') :
    if Region.wanted o (yielded ops a.tmps) = true then Oper.wp Tryz.prog o a w K Q else E := by
  have hw : Region.wanted o (yielded ops a.tmps) = true := by simp [Region.wanted, hgd]
  rw [if_pos hw]
  obtain ⟨i0, hi, hz0, hz1, hz2⟩ := info_parts Tryz.infoF
  refine wp_append_own w s x 24 ho B 83 i0 (.agg #[.string ⟨#[]⟩, .string ⟨#[]⟩]) 2 32 Tryz.underlying24 hi hz0 hz1 hz2 rfl (by decide) v l.length (cellsF l) hs hown ⟨b, 0, none⟩ 1 1 [.string f.1, .string f.2] hx rfl ?_
    (by intro u hu; simp at hu; rcases hu with rfl | rfl <;> rfl) (by unfold maxLen; omega) (by omega) hB ?_
  · intro j u hu
    rw [addr_add, Nat.zero_add]
    match j, hu with
    | 0, hu => simp at hu; subst hu; exact c0
    | 1, hu => simp at hu; subst hu; exact c1
  intro v' w' h1 h2 _
  refine h v' w' ?_ h2
  unfold OwnsF
  rw [cellsF_append, List.length_append]
  exact h1

end Go.Proofs.YtemmgfnepdgpbaaGreatDoor

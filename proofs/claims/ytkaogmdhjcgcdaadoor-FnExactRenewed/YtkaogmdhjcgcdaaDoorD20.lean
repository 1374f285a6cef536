/-
  The contracts of Without, the specification's and the program's.
  One field appended: in a region that draws its order; to a slice that has no room.
  Objects in memory: all cells stored; fields that came in, appended to a row of one's own.
  Objects marked from any number on, and asked for their marks.
-/
import Derived.Test.YtkaogmdhjcgcdaaDoorD19
import Derived.Laws.Append
import Derived.Test.YtkaogmdhjcgcdaaDoorD14
import Derived.Laws.AppendOwnNone
namespace Go.Proofs.YtkaogmdhjcgcdaaDoor
open Go.RowKit Go.Sort Go.Maps

theorem rest_one (l : List Fl) (n : ByteArray) : l.filter (restB [lowS n]) = wo l n := by
  unfold wo
  congr 1
  funext f
  unfold restB keepB
  by_cases h : lowS f.1 = lowS n
  · simp [h]
  · have h' : ¬ lowS n = lowS f.1 := fun e => h e.symm
    simp [h, h']
theorem strs_one (w : World) (n : ByteArray) : Strs ((w.alloc (.map #[] 0)).alloc (.cells #[.string n] 9)) (.slice (some ⟨w.heap.size + 1, 0, none⟩) 1 1) [n] := by
  have h := strs_lit (w.alloc (.map #[] 0)) [n] (by simp)
  have e : (w.alloc (.map #[] 0)).heap.size = w.heap.size + 1 := by simp
  rw [e] at h
  exact h
/-- A slice of fields as the program answers it. -/
def GivesF (w w' : World) (e : Ending) (l : List Fl) : Prop := (∃ g, e = .returned (.slice (some ⟨g, 0, none⟩) l.length l.length) ∧ HasF w' w.heap.size (.slice (some ⟨g, 0, none⟩) l.length l.length) l) ∧ Below w.heap.size w w'
theorem GivesF.any {w w' : World} {e : Ending} {l : List Fl} (h : GivesF w w' e l) : ∃ u, e = .returned u ∧ HasF w' w.heap.size u l ∧ Below w.heap.size w w' := by
  obtain ⟨⟨g, he, hh⟩, hb⟩ := h
  exact ⟨_, he, hh, hb⟩
end Go.Proofs.YtkaogmdhjcgcdaaDoor
namespace Go.Proofs.YtkaogmdhjcgcdaaDoor
open Go.RowKit Go.Sort Go.Maps

theorem cells_of (l : List Fl) {w : World} {g : Nat} (hc : ∀ j (hj : j < l.length), w.cell? ⟨g, j * 2, none⟩ = some (.string l[j].1) ∧ w.cell? ⟨g, j * 2 + 1, none⟩ = some (.string l[j].2)) : ∀ j u, (cellsF l)[j]? = some u → w.cell? ((⟨g, 0, none⟩ : Addr).add j) = some u := by
  intro j u hu
  have hj : j < (cellsF l).length := (List.getElem?_eq_some_iff.1 hu).1
  rw [cellsF_length] at hj
  rw [addr_add, Nat.zero_add, ← hu]
  obtain ⟨c1, c2⟩ := cellsF_at l (j / 2) (by omega)
  obtain ⟨d1, d2⟩ := hc (j / 2) (by omega)
  have h2 : j = j / 2 * 2 ∨ j = j / 2 * 2 + 1 := by omega
  rcases h2 with h2 | h2
  · rw [h2, c1]; exact d1
  · rw [h2, c2]; exact d2

end Go.Proofs.YtkaogmdhjcgcdaaDoor
namespace Go.Proofs.YtkaogmdhjcgcdaaDoor
open Go.RowKit Go.Sort
set_option linter.unusedVariables false

theorem cells_ofX (l : List Fl) {w : World} {g o : Nat} (hc : ∀ j (hj : j < l.length), w.cell? ⟨g, o + j * 2, none⟩ = some (.string l[j].1) ∧ w.cell? ⟨g, o + j * 2 + 1, none⟩ = some (.string l[j].2)) : ∀ j u, (cellsF l)[j]? = some u → w.cell? ((⟨g, o, none⟩ : Addr).add j) = some u := by
  intro j u hu
  have hj : j < (cellsF l).length := (List.getElem?_eq_some_iff.1 hu).1
  rw [cellsF_length] at hj
  rw [addr_add, ← hu]
  obtain ⟨c1, c2⟩ := cellsF_at l (j / 2) (by omega)
  obtain ⟨d1, d2⟩ := hc (j / 2) (by omega)
  have h2 : j = j / 2 * 2 ∨ j = j / 2 * 2 + 1 := by omega
  rcases h2 with h2 | h2
  · rw [h2, c1]; exact d1
  · rw [h2, c2]; exact d2
/-- Fields that came in, appended to fields of one's own. -/
theorem wpList_catX {ops : Array Oper} {rest : List Oper} {o : Oper} {a : Act} {Q : Exit → Act → World → Prop} (w : World) (hgd : o.guard = none) (s x : Operand)
    (ho : o.op = .call { callee := .builtin .append, args := #[s, x], argTypes := #[29, 29] }) (B : Nat) (v vx : Value) (l m : List Fl) (hs : a.eval s = v) (hown : OwnsF w B v l)
    (hx : a.eval x = vx) (hm : Fls w vx m) (hsd : Solid vx) (hlen : l.length + m.length ≤ 1000000) (hB : B ≤ w.heap.size)
    (h : ∀ v' w', OwnsF w' B v' (l ++ m) → w.grownBy w' v.ownBlock → wpList Tryd.prog ops Q rest (a.put o.dst v') w') :
    wpList Tryd.prog ops Q (o :: rest) a w := by
  obtain ⟨i0, hi, hz0, hz1, hz2⟩ := info_parts Tryd.infoF
  obtain ⟨a1, cap, rfl, h1, h2, h3⟩ := hm
  have hcat : ∀ ad, a1 = some ad → wpList Tryd.prog ops Q (o :: rest) a w := fun ad e => by
    refine wpList_append_own _ hgd s x 29 ho B 56 i0 (.agg #[.string ⟨#[]⟩, .string ⟨#[]⟩]) 2 32 Tryd.underlying29 hi hz0 hz1 hz2 rfl (by decide) v l.length (cellsF l) hs hown ad m.length cap (cellsF m) (by rw [hx, e]) (cellsF_length m) ?_
      (cellsF_one m) (by unfold maxLen; omega) (by omega) hB ?_
    · intro j u hu
      have hj : j < (cellsF m).length := (List.getElem?_eq_some_iff.1 hu).1
      rw [cellsF_length] at hj
      obtain ⟨g, q, e2, _, hc⟩ := h3 (by omega)
      rw [e] at e2
      obtain rfl := Option.some.inj e2
      exact cells_ofX m hc j u hu
    · intro v' w' k1 k2 _
      refine h v' w' ?_ k2
      unfold OwnsF
      rw [cellsF_append, List.length_append]
      exact k1
  cases a1 with
  | some ad => exact hcat ad rfl
  | none =>
    have hm0 : m = [] := by
      cases m with
      | nil => rfl
      | cons f m => obtain ⟨g, q, e2, _⟩ := h3 (by simp); cases e2
    subst hm0
    have hc0 : cap = 0 := hsd _ _ rfl
    subst hc0
    refine wpList_append_own_none hgd s x 29 ho B 56 i0 2 Tryd.underlying29 hi v l.length (cellsF l) hs hown hx ?_
    exact h v w (by rw [List.append_nil]; exact hown) ⟨rfl, rfl, rfl, Nat.le_refl _, fun _ _ _ => rfl⟩
def obL (o : Ob) (v u : Value) : List Value := [.string o.k, v, .int .i64 o.r.s, u, .string o.r.b, .int .i64 o.asked, .int .i64 o.got, .int .i64 o.ep]
theorem ObB.puts {w : World} {b : Nat} {o : Ob} {v u : Value} (h : ObB w b o v u) (o' : Ob) (v' u' : Value) : ObB (putL w b (obL o' v' u') 0) b o' v' u' := by
  have k := fun i => (putL_cells (w0 := w) b (obL o' v' u') 0 w (fun j _ h2 => by
    have h3 : j < 8 := by simpa [obL] using h2
    rcases (show j = 0 ∨ j = 1 ∨ j = 2 ∨ j = 3 ∨ j = 4 ∨ j = 5 ∨ j = 6 ∨ j = 7 by omega) with rfl | rfl | rfl | rfl | rfl | rfl | rfl | rfl
    · exact ⟨_, h.c0⟩
    · exact ⟨_, h.c1⟩
    · exact ⟨_, h.c2⟩
    · exact ⟨_, h.c3⟩
    · exact ⟨_, h.c4⟩
    · exact ⟨_, h.c5⟩
    · exact ⟨_, h.c6⟩
    · exact ⟨_, h.c7⟩) i).1
  exact ⟨k 0 _ ⟨rfl, by omega⟩, k 1 _ ⟨rfl, by omega⟩, k 2 _ ⟨rfl, by omega⟩, k 3 _ ⟨rfl, by omega⟩, k 4 _ ⟨rfl, by omega⟩, k 5 _ ⟨rfl, by omega⟩, k 6 _ ⟨rfl, by omega⟩, k 7 _ ⟨rfl, by omega⟩, fun j => by rw [putL_frozen]; exact h.fz j, by rw [putL_size]; exact h.hi⟩
theorem ObB.same {w w' : World} {b : Nat} {o : Ob} {v u : Value} (h : ObB w b o v u) (e : w'.heap[b]? = w.heap[b]?) (hs : w.heap.size ≤ w'.heap.size) : ObB w' b o v u := by
  have k : ∀ k, w'.cell? ⟨b, k, none⟩ = w.cell? ⟨b, k, none⟩ := fun k => World.cell?_of_block (a := ⟨b, k, none⟩) e
  exact ⟨(k 0).trans h.c0, (k 1).trans h.c1, (k 2).trans h.c2, (k 3).trans h.c3, (k 4).trans h.c4, (k 5).trans h.c5, (k 6).trans h.c6, (k 7).trans h.c7, fun j => (World.frozen?_of_block (a := ⟨b, j, none⟩) e).trans (h.fz j), Nat.lt_of_lt_of_le h.hi hs⟩
theorem RsB.same {w w' : World} {b : Nat} {r : Rs} {v : Value} (h : RsB w b r v) (e : w'.heap[b]? = w.heap[b]?) (hs : w.heap.size ≤ w'.heap.size) : RsB w' b r v := by
  have k : ∀ k, w'.cell? ⟨b, k, none⟩ = w.cell? ⟨b, k, none⟩ := fun k => World.cell?_of_block (a := ⟨b, k, none⟩) e
  exact ⟨(k 0).trans h.c0, (k 1).trans h.c1, (k 2).trans h.c2, fun j => (World.frozen?_of_block (a := ⟨b, j, none⟩) e).trans (h.fz j), Nat.lt_of_lt_of_le h.hi hs⟩
theorem obB_all {o : Ob} (h : obB o = true) : keyO o.k = true ∧ fldsOk o.l = true ∧ rsOk o.r = true ∧ momB o.asked = true ∧ momB o.got = true := by
  unfold obB at h
  simp only [Bool.and_eq_true] at h
  exact ⟨h.1, h.2.1, h.2.2.1, h.2.2.2.1, h.2.2.2.2.1⟩
theorem ownB_flds {l : List Fl} (h : ownB l = true) : fldsOk l = true := by unfold ownB at h; exact (Bool.and_eq_true _ _ ▸ h).1
theorem rsOk_flds {r : Rs} (h : rsOk r = true) : fldsOk r.l = true := ownB_flds (rsOk_parts h).2.1
theorem szL_flds {l : List Fl} (h : fldsOk l = true) : szL l ≤ 13920 := by
  obtain ⟨h1, h2⟩ := fldsOk_parts h
  have : ∀ m : List Fl, (∀ f ∈ m, fldOk f = true) → szL m ≤ m.length * 464 := by
    intro m
    induction m with
    | nil => intro _; exact Nat.zero_le _
    | cons f m ih =>
      intro hm
      have k1 := fldOk_size (hm f (by simp))
      have k2 := ih fun g hg => hm g (by simp [hg])
      have e : szL (f :: m) = szF f + szL m := by simp [szL]
      rw [e, List.length_cons]
      unfold szF
      omega
  have k := this l h2
  omega
end Go.Proofs.YtkaogmdhjcgcdaaDoor
namespace Go.Proofs.YtkaogmdhjcgcdaaDoor
open Go.RowKit Go.Sort
set_option linter.unusedVariables false

/-- All blocks but two stay. -/
structure Two (w w' : World) (a b : Option Nat) : Prop where
  os : w'.os = w.os
  tape : w'.tape = w.tape
  output : w'.output = w.output
  size : w.heap.size ≤ w'.heap.size
  block : ∀ k, k < w.heap.size → some k ≠ a → some k ≠ b → w'.heap[k]? = w.heap[k]?
theorem HasF.two {w w' : World} {B : Nat} {v : Value} {l : List Fl} {a b : Option Nat} (h : HasF w B v l) (ht : Two w w' a b) (h1 : ∀ k, v.ownBlock = some k → some k ≠ a) (h2 : ∀ k, v.ownBlock = some k → some k ≠ b) : HasF w' B v l := by
  rcases h with ⟨rfl, rfl⟩ | ⟨g, cap, cur, rfl, hb, hg, rest⟩
  · exact .inl ⟨rfl, rfl⟩
  · exact .inr ⟨g, cap, cur, rfl, hb, (ht.block g (Array.getElem?_eq_some_iff.1 hg).1 (h1 g rfl) (h2 g rfl)).trans hg, rest⟩
theorem Two.below {w w' : World} {B : Nat} {a b : Option Nat} (ht : Two w w' a b) (h1 : ∀ k, a = some k → B ≤ k) (h2 : ∀ k, b = some k → B ≤ k) (hB : B ≤ w.heap.size) : Below B w w' :=
  ⟨ht.os, ht.tape, ht.output, ht.size, fun k hk => ht.block k (by omega) (fun e => by have := h1 k e.symm; omega) (fun e => by have := h2 k e.symm; omega)⟩
set_option maxHeartbeats 2000000 in
theorem markO (s : Nat) (hs1 : 1 ≤ s) (hs2 : s ≤ 40000000) (o : Ob) (p u : Value) (B : Nat) (w : World) (hp : HasF w B p o.l) (hu : HasF w B u o.r.l) (hd : ∀ g, p.ownBlock = some g → u.ownBlock ≠ some g) (hl : o.l.length ≤ 1048576) (hr : o.r.l.length ≤ 1048576) :
    Calls Tryd.prog 15 #[obV o p u, .int .i64 (s : Int)] w fun e w' => e = .returned (.int .i64 ((s : Int) + 2 * (o.l.length : Int) + 2 * (o.r.l.length : Int))) ∧ HasF w' B p (marksN s o.l.length) ∧ HasF w' B u (marksN (s + 2 * o.l.length) o.r.l.length) ∧ Two w w' p.ownBlock u.ownBlock := by
  obtain ⟨pa, pc, rfl, _⟩ := hp.form
  obtain ⟨ua, uc, rfl, _⟩ := hu.form
  have hb0 := (Below.refl _ w).alloc (Nat.le_refl _) (.cells #[.string o.k, .slice pa o.l.length pc, .int .i64 o.r.s, .slice ua o.r.l.length uc, .string o.r.b, .int .i64 o.asked, .int .i64 o.got, .int .i64 o.ep] 33)
  have m1 := markFSN s hs1 (by omega) _ o.l B (w.alloc (.cells #[.string o.k, .slice pa o.l.length pc, .int .i64 o.r.s, .slice ua o.r.l.length uc, .string o.r.b, .int .i64 o.asked, .int .i64 o.got, .int .i64 o.ep] 33)) (hp.kept hb0) hl
  have m2 := fun W (h : HasF W B (.slice ua o.r.l.length uc) o.r.l) => markRsN (s + 2 * o.l.length) (by omega) (by omega) o.r _ B W h hr
  have ec : ((s + 2 * o.l.length : Nat) : Int) = (s : Int) + 2 * (o.l.length : Int) := by omega
  rw [ec] at m2
  have Q0 : ObB (w.alloc (.cells #[.string o.k, .slice pa o.l.length pc, .int .i64 o.r.s, .slice ua o.r.l.length uc, .string o.r.b, .int .i64 o.asked, .int .i64 o.got, .int .i64 o.ep] 33)) w.heap.size o (.slice pa o.l.length pc) (.slice ua o.r.l.length uc) := ObB.new w o _ _ _
  have hu0 := hu.kept hb0
  have hpu := hp.under
  have huu := hu.under
  have hpm : ∀ W, HasF W B (.slice pa o.l.length pc) (marksN s o.l.length) → True := fun _ _ => trivial
  clear hp hu
  unfold obV
  unfold rsV at m2
  go_enter Tryd.func15, Tryd.ntmps15
  go_wp2_with fail
  refine m1.mono ?_
  rintro e w1 ⟨rfl, h1, g1⟩
  have Q1 : ObB w1 w.heap.size o (.slice pa o.l.length pc) (.slice ua o.r.l.length uc) := Q0.same (g1.block _ (by simp) (fun e => by have := hpu _ e.symm; omega)) g1.size
  have hu1 := hu0.grown g1 (fun k hk e => hd k e.symm hk)
  obtain ⟨c0, c1, c2, c3, c4, c5, c6, c7, cf, ch⟩ := Q1
  have H1 : Hid (HasF w1 B (.slice pa o.l.length pc) (marksN s o.l.length)) := h1
  have G1 : Hid _ := g1
  have B0 : Hid _ := hb0
  clear h1 g1 hb0 Q0 hu0 m1 ec hpm
  go_wp2_with fail
  refine (m2 _ hu1).mono ?_
  rintro e w2 ⟨rfl, h2, g2⟩
  have H2 : HasF w2 B (.slice pa o.l.length pc) (marksN s o.l.length) := H1.out.grown g2 (fun k hk e => hd k (by simpa [Value.ownBlock] using hk) e.symm)
  have T : Hid (Two w w2 (Value.slice pa o.l.length pc).ownBlock (Value.slice ua o.r.l.length uc).ownBlock) := by
    have z1 := G1.out.size
    have z2 := g2.size
    simp at z1
    exact ⟨g2.os.trans (G1.out.os.trans B0.out.os), g2.tape.trans (G1.out.tape.trans B0.out.tape), g2.output.trans (G1.out.output.trans B0.out.output), by omega, fun k hk e1 e2 => ((g2.block k (by omega) e2).trans (G1.out.block k (by simp; omega) e1)).trans (B0.out.block k hk)⟩
  have HU : Hid (HasF w2 B (.slice ua o.r.l.length uc) (marksN (s + 2 * o.l.length) o.r.l.length)) := h2
  have HP : Hid _ := H2
  clear H1 H2 G1 B0 h2 g2 m2 c0 c1 c2 c3 c4 c5 c6 c7 cf ch hu1
  go_wp2
  go_ret
  exact ⟨rfl, HP.out, HU.out, T.out⟩
set_option maxHeartbeats 2000000 in
theorem heldO (s : Nat) (hs1 : 1 ≤ s) (hs2 : s ≤ 40000000) (o : Ob) (p u : Value) (B : Nat) (w : World) (hp : HasF w B p (marksN s o.l.length)) (hu : HasF w B u (marksN (s + 2 * o.l.length) o.r.l.length)) (hl : o.l.length ≤ 1048576) (hr : o.r.l.length ≤ 1048576) :
    Calls Tryd.prog 17 #[obV o p u, .int .i64 (s : Int)] w fun e w' => e = .returned (.int .i64 ((s : Int) + 2 * (o.l.length : Int) + 2 * (o.r.l.length : Int))) ∧ Below w.heap.size w w' := by
  obtain ⟨pa, pc, rfl, _⟩ := hp.form
  obtain ⟨ua, uc, rfl, _⟩ := hu.form
  rw [marksF_lengthN] at hp hu ⊢
  rw [marksF_lengthN]
  have m1 := fun W (h : HasF W B (.slice pa o.l.length pc) (marksN s o.l.length)) => heldFSN s hs1 (by omega) _ o.l.length B W h hl
  have m2 := fun W (h : HasF W B (.slice ua o.r.l.length uc) (marksN (s + 2 * o.l.length) o.r.l.length)) => heldRsN (s + 2 * o.l.length) (by omega) (by omega) o.r _ o.r.l.length B W h hr
  have ec : ((s + 2 * o.l.length : Nat) : Int) = (s : Int) + 2 * (o.l.length : Int) := by omega
  rw [ec] at m2
  have B0 : Hid (Below w.heap.size w (w.alloc (.cells #[.string o.k, .slice pa o.l.length pc, .int .i64 o.r.s, .slice ua o.r.l.length uc, .string o.r.b, .int .i64 o.asked, .int .i64 o.got, .int .i64 o.ep] 33))) := (Below.refl _ w).alloc (Nat.le_refl _) _
  have Q0 : Hid (ObB (w.alloc (.cells #[.string o.k, .slice pa o.l.length pc, .int .i64 o.r.s, .slice ua o.r.l.length uc, .string o.r.b, .int .i64 o.asked, .int .i64 o.got, .int .i64 o.ep] 33)) w.heap.size o (.slice pa o.l.length pc) (.slice ua o.r.l.length uc)) := ObB.new w o _ _ _
  have P0 : Hid (HasF (w.alloc (.cells #[.string o.k, .slice pa o.l.length pc, .int .i64 o.r.s, .slice ua o.r.l.length uc, .string o.r.b, .int .i64 o.asked, .int .i64 o.got, .int .i64 o.ep] 33)) B (.slice pa o.l.length pc) (marksN s o.l.length)) := hp.kept B0.out
  have U0 : Hid (HasF (w.alloc (.cells #[.string o.k, .slice pa o.l.length pc, .int .i64 o.r.s, .slice ua o.r.l.length uc, .string o.r.b, .int .i64 o.asked, .int .i64 o.got, .int .i64 o.ep] 33)) B (.slice ua o.r.l.length uc) (marksN (s + 2 * o.l.length) o.r.l.length)) := hu.kept B0.out
  have n1 : ¬ ((s : Int) + 2 * (o.l.length : Int)) < 0 := by omega
  have n2 : ¬ ((s : Int) + 2 * (o.l.length : Int) + 2 * (o.r.l.length : Int)) < 0 := by omega
  clear hp hu ec
  unfold obV
  unfold rsV at m2
  go_enter Tryd.func17, Tryd.ntmps17
  go_wp2_with fail
  refine (m1 _ P0.out).mono ?_
  rintro e w1 ⟨rfl, g1⟩
  have hb1 := g1.low
  have B1 : Hid (Below w.heap.size w w1) := past6 B0.out hb1
  have U1 : Hid (HasF w1 B (.slice ua o.r.l.length uc) (marksN (s + 2 * o.l.length) o.r.l.length)) := U0.out.kept hb1
  obtain ⟨c0, c1, c2, c3, c4, c5, c6, c7, cf, ch⟩ := Q0.out.next hb1
  clear hb1 g1 B0 Q0 P0 U0 m1
  go_wp2_with fail
  refine (m2 _ U1.out).mono ?_
  rintro e w2 ⟨rfl, hb2⟩
  have B2 : Hid (Below w.heap.size w w2) := past6 B1.out hb2
  clear hb2 c0 c1 c2 c3 c4 c5 c6 c7 cf ch m2 B1 U1
  go_wp2
  go_ret
  exact ⟨rfl, B2.out⟩
end Go.Proofs.YtkaogmdhjcgcdaaDoor

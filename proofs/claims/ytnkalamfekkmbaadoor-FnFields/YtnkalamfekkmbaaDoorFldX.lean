/-
  Rows of texts and of fields put behind one another; how large items are.
-/
import Derived.Test.YtnkalamfekkmbaaDoorFldD
import Derived.Test.YtnkalamfekkmbaaDoorItl
import Derived.Laws.AppendOwnNone
namespace Go.Proofs.YtnkalamfekkmbaaDoor
open Go.RowKit Go.Sort Go.Maps

/-- Texts appended to texts. -/
theorem wpList_catS {ops : Array Oper} {rest : List Oper} {o : Oper} {a : Act} {Q : Exit → Act → World → Prop} (w : World) (hgd : o.guard = none) (s x : Operand)
    (ho : o.op = .call { callee := .builtin .append, args := #[s, x], argTypes := #[42, 42] }) (B Bx : Nat) (v vx : Value) (l m : List ByteArray) (hs : a.eval s = v) (hown : OwnsS w B v l)
    (hx : a.eval x = vx) (hm : OwnsS w Bx vx m) (hlen : l.length + m.length ≤ 1000000) (hB : B ≤ w.heap.size)
    (h : ∀ v' w', OwnsS w' B v' (l ++ m) → w.grownBy w' v.ownBlock → wpList Tryd.prog ops Q rest (a.put o.dst v') w') :
    wpList Tryd.prog ops Q (o :: rest) a w := by
  obtain ⟨i0, hi, hz0, hz1, hz2⟩ := info_parts Tryd.info9
  have hm2 := hm
  obtain ⟨⟨g, cap, rfl, _, _⟩, _⟩ := hm
  have hat := hm2.at rfl
  refine wpList_append_own _ hgd s x 42 ho B 9 i0 (.string ⟨#[]⟩) 1 16 Tryd.underlying42 hi hz0 hz1 hz2 rfl (by decide) v l.length (l.map Value.string) hs hown.2 ⟨g, 0, none⟩ m.length cap (m.map Value.string) hx (by simp) ?_
    (by intro u hu; obtain ⟨c, _, rfl⟩ := List.mem_map.1 hu; rfl) (by unfold maxLen; omega) (by omega) hB ?_
  · intro j u hu
    have hj : j < m.length := by have := (List.getElem?_eq_some_iff.1 hu).1; simpa using this
    rw [addr_add, Nat.zero_add, hat j hj, ← hu]
    simp [hj]
  intro v' w' h1 h2 h3
  refine h v' w' ?_ h2
  have h1' : w'.ownsRow B 9 1 v' (l ++ m).length ((l ++ m).map Value.string) := by
    rw [List.map_append, List.length_append]
    exact h1
  refine ⟨?_, h1'⟩
  rcases h1'.2 with ⟨h0, _⟩ | ⟨g', cap', cur, hv, hb, hg, rest⟩
  · have hv := (h3.1 h0).1
    obtain ⟨g2, c2, e, _⟩ := hown.1
    rw [e] at hv
    cases hv
  · exact ⟨g', cap', hv, hb, (Array.getElem?_eq_some_iff.1 hg).1⟩

/-- Fields appended to fields. -/
theorem wpList_catF {ops : Array Oper} {rest : List Oper} {o : Oper} {a : Act} {Q : Exit → Act → World → Prop} (w : World) (hgd : o.guard = none) (s x : Operand)
    (ho : o.op = .call { callee := .builtin .append, args := #[s, x], argTypes := #[24, 24] }) (B Bx : Nat) (v vx : Value) (l m : List Fl) (hs : a.eval s = v) (hown : OwnsF w B v l)
    (hx : a.eval x = vx) (hm : HasF w Bx vx m) (hlen : l.length + m.length ≤ 1000000) (hB : B ≤ w.heap.size)
    (h : ∀ v' w', OwnsF w' B v' (l ++ m) → w.grownBy w' v.ownBlock → wpList Tryd.prog ops Q rest (a.put o.dst v') w') :
    wpList Tryd.prog ops Q (o :: rest) a w := by
  obtain ⟨i0, hi, hz0, hz1, hz2⟩ := info_parts Tryd.infoF
  have hm2 := hm
  rcases hm with ⟨rfl, rfl⟩ | ⟨g, cap, cur, rfl, _, _⟩
  · refine wpList_append_own_none hgd s x 24 ho B 53 i0 2 Tryd.underlying24 hi v l.length (cellsF l) hs hown hx ?_
    refine h v w (by rw [List.append_nil]; exact hown) (grown_self _ _)
  · refine wpList_append_own _ hgd s x 24 ho B 53 i0 (.agg #[.string ⟨#[]⟩, .string ⟨#[]⟩]) 2 32 Tryd.underlying24 hi hz0 hz1 hz2 rfl (by decide) v l.length (cellsF l) hs hown ⟨g, 0, none⟩ m.length cap (cellsF m) hx (cellsF_length m) (cells_of m hm2.at)
      (cellsF_one m) (by unfold maxLen; omega) (by omega) hB ?_
    intro v' w' h1 h2 _
    refine h v' w' ?_ h2
    unfold OwnsF
    rw [cellsF_append, List.length_append]
    exact h1

theorem partsF_size : ∀ (n : Nat) (l cur : List UInt8) (op : Bool), l.length ≤ n → ∀ p ∈ partsF cur op l, p.length ≤ cur.length + l.length := by
  intro n
  induction n with
  | zero =>
    intro l cur op h p hp
    have e : l = [] := List.eq_nil_of_length_eq_zero (by omega)
    subst e
    rw [partsF_nil] at hp
    rw [List.mem_singleton.1 hp]; simp
  | succ n ih =>
    intro l cur op h p hp
    cases l with
    | nil => rw [partsF_nil] at hp; rw [List.mem_singleton.1 hp]; simp
    | cons c r =>
      simp only [List.length_cons] at h ⊢
      by_cases h1 : op = false ∧ c.toNat = 44
      · obtain ⟨rfl, h1⟩ := h1
        rw [partsF_comma _ _ h1] at hp
        rcases List.mem_cons.1 hp with rfl | hp
        · omega
        · have := ih r [] false (by omega) p hp
          simp at this
          omega
      · by_cases h2 : c.toNat = 34
        · rw [partsF_quote _ _ _ h2] at hp
          have := ih r (cur ++ [c]) (!op) (by omega) p hp
          simp at this
          omega
        · by_cases h3 : op = true ∧ c.toNat = 92
          · obtain ⟨rfl, h3⟩ := h3
            rw [partsF_take _ _ h3] at hp
            cases r with
            | nil => simp at hp; subst hp; simp
            | cons d r =>
              simp only [List.length_cons] at h ⊢
              have := ih r (cur ++ [c] ++ [d]) true (by omega) p hp
              simp at this
              omega
          · rw [partsF_plain _ _ _ h1 h2 h3] at hp
            have := ih r (cur ++ [c]) op (by omega) p hp
            simp at this
            omega
theorem items_size (s : ByteArray) : ∀ x ∈ itemsA s, x.size ≤ 400 := by
  intro x hx
  cases h : visB s with
  | false => rw [← itemsA_no h] at hx; cases hx
  | true =>
    rw [← itemsA_yes h] at hx
    unfold itemsT itemsOf at hx
    obtain ⟨p, hp, hxp⟩ := List.mem_flatMap.1 hx
    have h1 := partsF_size s.data.toList.length s.data.toList [] false (Nat.le_refl _) p hp
    have h2 := visB_size h
    have h3 : s.data.toList.length = s.size := by simp
    unfold one at hxp
    split at hxp
    · rw [List.mem_singleton.1 hxp]
      have h4 := trimB_size ⟨p.toArray⟩
      have h5 : (⟨p.toArray⟩ : ByteArray).size = p.length := by show p.toArray.size = _; simp
      simp at h1
      omega
    · cases hxp
theorem rest_hop (ns : List ByteArray) : restB (ns.map lowS) = hopP ns := by
  funext f
  rw [hopP_any]
  unfold restB
  rw [List.any_map]
  rfl
theorem hopN_size : ∀ n ∈ hopN, n.size ≤ 400 := by decide
theorem strs_hop (w : World) : Strs ((w.alloc (.map #[] 0)).alloc (.cells (hopN.map Value.string).toArray 9)) (.slice (some ⟨w.heap.size + 1, 0, none⟩) 7 7) hopN := by
  have h := strs_lit (w.alloc (.map #[] 0)) hopN (by decide)
  have e : (w.alloc (.map #[] 0)).heap.size = w.heap.size + 1 := by simp
  rw [e] at h
  exact h
theorem owns_hop (w : World) : OwnsS (w.alloc (.cells (hopN.map Value.string).toArray 9)) w.heap.size (.slice (some ⟨w.heap.size, 0, none⟩) 7 7) hopN :=
  ⟨⟨w.heap.size, 7, rfl, Nat.le_refl _, by simp⟩, World.ownsRow_lit w (hopN.map Value.string).toArray 7 (Nat.le_refl _) (by unfold maxLen; decide) rfl⟩
theorem hopA_length (l : List Fl) : (hopA l).length ≤ 30 := (fldsOk_parts (hopA_ok l)).1
end Go.Proofs.YtnkalamfekkmbaaDoor

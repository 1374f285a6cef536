/-
  The contract of the program's Items, whose states are labels.
  How many items a text has at most, and what is kept of an owned slice where another one is marked.
  Rows of texts and of fields put behind one another; how large items are.
-/
import Derived.Test.YteibacmohplblaaGreatDoorG16
import Derived.WalkMore
import Derived.Test.YteibacmohplblaaGreatDoorG12
import Derived.Laws.AppendOwnNone
namespace Go.Proofs.YteibacmohplblaaGreatDoor
open Go.RowKit

/-- The frame at a state. -/
def frI (s : ByteArray) (v : Value) (a n : Int) (u : Nat → Value) : Act := { tmps := #[.string s, undef, .slice none 0 0, v, .int .i64 a, .int .i64 n, u 6, u 7, u 8, u 9, u 10, u 11, u 12, u 13, u 14, u 15, u 16, u 17, u 18, u 19, u 20, u 21, u 22, u 23, u 24, u 25, u 26, u 27, u 28, u 29, u 30, u 31, u 32, u 33, u 34, u 35, u 36, u 37, u 38, u 39, u 40, u 41, u 42, u 43, u 44, u 45, u 46, u 47, u 48, u 49, u 50, u 51, u 52, u 53], defers := [] }

/-- What holds at each label. -/
def Ji (s : ByteArray) (w : World) : Nat → Act → World → Prop
  | 0, a, x => ∃ (f k : Nat) (fa n : Int) (v : Value) (out : List ByteArray), (∃ u, a = frI s v fa n u) ∧ fa = (f : Int) ∧ n = (k : Int) ∧ f ≤ s.size ∧ s.size ≤ k ∧ OwnsS x w.heap.size v out ∧ Below w.heap.size w x ∧ out.length ≤ f ∧ Hid (∃ op, At s out f k op)
  | 1, a, x => ∃ (f k : Nat) (fa n : Int) (v : Value) (out : List ByteArray), (∃ u, a = frI s v fa n u) ∧ fa = (f : Int) ∧ n = (k : Int) ∧ f ≤ s.size ∧ f ≤ k ∧ k ≤ s.size ∧ OwnsS x w.heap.size v out ∧ Below w.heap.size w x ∧ out.length ≤ f ∧ Hid (At s out f k false)
  | 2, a, x => ∃ (f k : Nat) (fa n : Int) (v : Value) (out : List ByteArray), (∃ u, a = frI s v fa n u) ∧ fa = (f : Int) ∧ n = (k : Int) ∧ f ≤ s.size ∧ f ≤ k ∧ k ≤ s.size + 1 ∧ OwnsS x w.heap.size v out ∧ Below w.heap.size w x ∧ out.length ≤ f ∧ Hid (At s out f k true)
  | 3, a, x => ∃ (f k : Nat) (fa n : Int) (v : Value) (out : List ByteArray), (∃ u, a = frI s v fa n u) ∧ fa = (f : Int) ∧ n = (k : Int) ∧ f ≤ s.size ∧ f ≤ k ∧ k ≤ s.size ∧ OwnsS x w.heap.size v out ∧ Below w.heap.size w x ∧ out.length ≤ f ∧ Hid (At s out f (k + 1) true)
  | _, _, _ => False
/-- What every pass lowers. -/
def mi (s : ByteArray) : Nat → Act → World → Nat
  | 0, _, _ => 0
  | _, a, _ => 2 * (s.size + 3 - (intOf (a.tmps.getD 5 undef)).toNat) + 1
theorem jumpI0 {s : ByteArray} {w x : World} {a : Act} {m f k : Nat} {fa n : Int} {v : Value} {out : List ByteArray} (hf : a = frI s v fa n (fun i => a.tmps.getD i undef)) (hfa : fa = (f : Int)) (hn : n = (k : Int)) (h1 : f ≤ s.size) (h2 : s.size ≤ k) (ho : OwnsS x w.heap.size v out) (hb : Below w.heap.size w x) (hl : out.length ≤ f) (h : Hid (∃ op, At s out f k op)) (hm : 0 < m) : Ji s w 0 a x ∧ mi s 0 a x < m := by
  obtain ⟨u, rfl⟩ : ∃ u, a = frI s v fa n u := ⟨_, hf⟩
  refine ⟨⟨f, k, fa, n, v, out, ⟨u, rfl⟩, hfa, hn, h1, h2, ho, hb, hl, h⟩, ?_⟩
  exact hm
theorem jumpI1 {s : ByteArray} {w x : World} {a : Act} {m f k : Nat} {fa n : Int} {v : Value} {out : List ByteArray} (hf : a = frI s v fa n (fun i => a.tmps.getD i undef)) (hfa : fa = (f : Int)) (hn : n = (k : Int)) (h1 : f ≤ s.size) (h2 : f ≤ k) (h3 : k ≤ s.size) (ho : OwnsS x w.heap.size v out) (hb : Below w.heap.size w x) (hl : out.length ≤ f) (h : Hid (At s out f k false)) (hm : 2 * (s.size + 3 - k) + 1 < m) : Ji s w 1 a x ∧ mi s 1 a x < m := by
  obtain ⟨u, rfl⟩ : ∃ u, a = frI s v fa n u := ⟨_, hf⟩
  refine ⟨⟨f, k, fa, n, v, out, ⟨u, rfl⟩, hfa, hn, h1, h2, h3, ho, hb, hl, h⟩, ?_⟩
  show 2 * (s.size + 3 - n.toNat) + 1 < m
  rw [hn, Int.toNat_natCast]
  exact hm
theorem jumpI2 {s : ByteArray} {w x : World} {a : Act} {m f k : Nat} {fa n : Int} {v : Value} {out : List ByteArray} (hf : a = frI s v fa n (fun i => a.tmps.getD i undef)) (hfa : fa = (f : Int)) (hn : n = (k : Int)) (h1 : f ≤ s.size) (h2 : f ≤ k) (h3 : k ≤ s.size + 1) (ho : OwnsS x w.heap.size v out) (hb : Below w.heap.size w x) (hl : out.length ≤ f) (h : Hid (At s out f k true)) (hm : 2 * (s.size + 3 - k) + 1 < m) : Ji s w 2 a x ∧ mi s 2 a x < m := by
  obtain ⟨u, rfl⟩ : ∃ u, a = frI s v fa n u := ⟨_, hf⟩
  refine ⟨⟨f, k, fa, n, v, out, ⟨u, rfl⟩, hfa, hn, h1, h2, h3, ho, hb, hl, h⟩, ?_⟩
  show 2 * (s.size + 3 - n.toNat) + 1 < m
  rw [hn, Int.toNat_natCast]
  exact hm
theorem jumpI3 {s : ByteArray} {w x : World} {a : Act} {m f k : Nat} {fa n : Int} {v : Value} {out : List ByteArray} (hf : a = frI s v fa n (fun i => a.tmps.getD i undef)) (hfa : fa = (f : Int)) (hn : n = (k : Int)) (h1 : f ≤ s.size) (h2 : f ≤ k) (h3 : k ≤ s.size) (ho : OwnsS x w.heap.size v out) (hb : Below w.heap.size w x) (hl : out.length ≤ f) (h : Hid (At s out f (k + 1) true)) (hm : 2 * (s.size + 3 - k) + 1 < m) : Ji s w 3 a x ∧ mi s 3 a x < m := by
  obtain ⟨u, rfl⟩ : ∃ u, a = frI s v fa n u := ⟨_, hf⟩
  refine ⟨⟨f, k, fa, n, v, out, ⟨u, rfl⟩, hfa, hn, h1, h2, h3, ho, hb, hl, h⟩, ?_⟩
  show 2 * (s.size + 3 - n.toNat) + 1 < m
  rw [hn, Int.toNat_natCast]
  exact hm
theorem firstI0 {s : ByteArray} {w x : World} {a : Act} {f k : Nat} {fa n : Int} {v : Value} {out : List ByteArray} (hf : a = frI s v fa n (fun i => a.tmps.getD i undef)) (hfa : fa = (f : Int)) (hn : n = (k : Int)) (h1 : f ≤ s.size) (h2 : s.size ≤ k) (ho : OwnsS x w.heap.size v out) (hb : Below w.heap.size w x) (hl : out.length ≤ f) (h : Hid (∃ op, At s out f k op)) : Ji s w 0 a x :=
  ⟨f, k, fa, n, v, out, ⟨_, hf⟩, hfa, hn, h1, h2, ho, hb, hl, h⟩
theorem firstI1 {s : ByteArray} {w x : World} {a : Act} {f k : Nat} {fa n : Int} {v : Value} {out : List ByteArray} (hf : a = frI s v fa n (fun i => a.tmps.getD i undef)) (hfa : fa = (f : Int)) (hn : n = (k : Int)) (h1 : f ≤ s.size) (h2 : f ≤ k) (h3 : k ≤ s.size) (ho : OwnsS x w.heap.size v out) (hb : Below w.heap.size w x) (hl : out.length ≤ f) (h : Hid (At s out f k false)) : Ji s w 1 a x :=
  ⟨f, k, fa, n, v, out, ⟨_, hf⟩, hfa, hn, h1, h2, h3, ho, hb, hl, h⟩
theorem firstI2 {s : ByteArray} {w x : World} {a : Act} {f k : Nat} {fa n : Int} {v : Value} {out : List ByteArray} (hf : a = frI s v fa n (fun i => a.tmps.getD i undef)) (hfa : fa = (f : Int)) (hn : n = (k : Int)) (h1 : f ≤ s.size) (h2 : f ≤ k) (h3 : k ≤ s.size + 1) (ho : OwnsS x w.heap.size v out) (hb : Below w.heap.size w x) (hl : out.length ≤ f) (h : Hid (At s out f k true)) : Ji s w 2 a x :=
  ⟨f, k, fa, n, v, out, ⟨_, hf⟩, hfa, hn, h1, h2, h3, ho, hb, hl, h⟩
theorem firstI3 {s : ByteArray} {w x : World} {a : Act} {f k : Nat} {fa n : Int} {v : Value} {out : List ByteArray} (hf : a = frI s v fa n (fun i => a.tmps.getD i undef)) (hfa : fa = (f : Int)) (hn : n = (k : Int)) (h1 : f ≤ s.size) (h2 : f ≤ k) (h3 : k ≤ s.size) (ho : OwnsS x w.heap.size v out) (hb : Below w.heap.size w x) (hl : out.length ≤ f) (h : Hid (At s out f (k + 1) true)) : Ji s w 3 a x :=
  ⟨f, k, fa, n, v, out, ⟨_, hf⟩, hfa, hn, h1, h2, h3, ho, hb, hl, h⟩
theorem mi_fr1 (s : ByteArray) (v : Value) (fa : Int) (k : Nat) (u : Nat → Value) (x : World) : mi s 1 (frI s v fa (k : Int) u) x = 2 * (s.size + 3 - k) + 1 := rfl
theorem mi_fr2 (s : ByteArray) (v : Value) (fa : Int) (k : Nat) (u : Nat → Value) (x : World) : mi s 2 (frI s v fa (k : Int) u) x = 2 * (s.size + 3 - k) + 1 := rfl
theorem mi_fr3 (s : ByteArray) (v : Value) (fa : Int) (k : Nat) (u : Nat → Value) (x : World) : mi s 3 (frI s v fa (k : Int) u) x = 2 * (s.size + 3 - k) + 1 := rfl
theorem gen_of {P : Program} {c : Code} {Q : Exit → Act → World → Prop} {a : Act} {x : World} (I : Act → World → Prop) (gen : ∀ a x, I a x → Code.wp P c Q a x) (h : I a x) : Code.wp P c Q a x := gen a x h
theorem one_length (x : ByteArray) : (one x).length ≤ 1 := by unfold one; split <;> simp

end Go.Proofs.YteibacmohplblaaGreatDoor
namespace Go.Proofs.YteibacmohplblaaGreatDoor
open Go.RowKit

theorem partsF_length : ∀ (n : Nat) (l cur : List UInt8) (op : Bool), l.length ≤ n → (partsF cur op l).length ≤ l.length + 1 := by
  intro n
  induction n with
  | zero =>
    intro l cur op h
    have e : l = [] := List.eq_nil_of_length_eq_zero (by omega)
    subst e
    rw [partsF_nil]; simp
  | succ n ih =>
    intro l cur op h
    cases l with
    | nil => rw [partsF_nil]; simp
    | cons c r =>
      simp only [List.length_cons] at h
      by_cases h1 : op = false ∧ c.toNat = 44
      · obtain ⟨rfl, h1⟩ := h1
        rw [partsF_comma _ _ h1]
        have := ih r [] false (by omega)
        simp only [List.length_cons]
        omega
      · by_cases h2 : c.toNat = 34
        · rw [partsF_quote _ _ _ h2]
          have := ih r (cur ++ [c]) (!op) (by omega)
          simp only [List.length_cons]
          omega
        · by_cases h3 : op = true ∧ c.toNat = 92
          · obtain ⟨rfl, h3⟩ := h3
            rw [partsF_take _ _ h3]
            cases r with
            | nil => simp
            | cons d r =>
              simp only [List.length_cons] at h ⊢
              have := ih r (cur ++ [c] ++ [d]) true (by omega)
              show (partsF (cur ++ [c] ++ [d]) true r).length ≤ _
              omega
          · rw [partsF_plain _ _ _ h1 h2 h3]
            have := ih r (cur ++ [c]) op (by omega)
            simp only [List.length_cons]
            omega
theorem itemsOf_length (ps : List (List UInt8)) : (itemsOf ps).length ≤ ps.length := by
  induction ps with
  | nil => simp [itemsOf]
  | cons p ps ih =>
    rw [itemsOf_cons, List.length_append, List.length_cons]
    have := one_length ⟨p.toArray⟩
    omega
theorem itemsA_length (s : ByteArray) : (itemsA s).length ≤ 401 := by
  cases h : visB s with
  | false => rw [← itemsA_no h]; simp
  | true =>
    rw [← itemsA_yes h]
    have h1 := vis_size h
    have h2 := partsF_length s.data.toList.length s.data.toList [] false (Nat.le_refl _)
    have h3 := itemsOf_length (partsF [] false s.data.toList)
    have h4 : s.data.toList.length = s.size := by simp
    unfold itemsT
    omega

theorem OwnsS.but {w w' : World} {B g : Nat} {v : Value} {l : List ByteArray} (h : OwnsS w B v l) (hb : But g w w') (hne : ∀ k, v.ownBlock = some k → k ≠ g) : OwnsS w' B v l := by
  obtain ⟨⟨g0, cap, hv, hbg, hg⟩, h1, h2⟩ := h
  refine ⟨⟨g0, cap, hv, hbg, Nat.lt_of_lt_of_le hg hb.2.2.2.1⟩, h1, ?_⟩
  rcases h2 with h0 | ⟨g', cap', cur, hv', hb', hg', rest⟩
  · exact .inl h0
  · refine .inr ⟨g', cap', cur, hv', hb', ?_, rest⟩
    rw [hb.2.2.2.2 g' (Array.getElem?_eq_some_iff.1 hg').1 (hne g' (by rw [hv']; rfl))]
    exact hg'
theorem But.low {g B : Nat} {w w' : World} (h : But g w w') (hB : B ≤ g) (hs : B ≤ w.heap.size) : Below B w w' :=
  ⟨h.1, h.2.1, h.2.2.1, h.2.2.2.1, fun k hk => h.2.2.2.2 k (by omega) (by omega)⟩
theorem OwnsS.under {w : World} {B : Nat} {v : Value} {l : List ByteArray} (h : OwnsS w B v l) : ∀ k, v.ownBlock = some k → k < w.heap.size := fun k hk => (World.ownsRow.lt h.2 k hk).2
end Go.Proofs.YteibacmohplblaaGreatDoor
namespace Go.Proofs.YteibacmohplblaaGreatDoor
open Go.RowKit Go.Sort Go.Maps

/-- Texts appended to texts. -/
theorem wpList_catS {ops : Array Oper} {rest : List Oper} {o : Oper} {a : Act} {Q : Exit → Act → World → Prop} (w : World) (hgd : o.guard = none) (s x : Operand)
    (ho : o.op = .call { callee := .builtin .append, args := #[s, x], argTypes := #[74, 74] }) (B Bx : Nat) (v vx : Value) (l m : List ByteArray) (hs : a.eval s = v) (hown : OwnsS w B v l)
    (hx : a.eval x = vx) (hm : OwnsS w Bx vx m) (hlen : l.length + m.length ≤ 1000000) (hB : B ≤ w.heap.size)
    (h : ∀ v' w', OwnsS w' B v' (l ++ m) → w.grownBy w' v.ownBlock → wpList Tryz.prog ops Q rest (a.put o.dst v') w') :
    wpList Tryz.prog ops Q (o :: rest) a w := by
  obtain ⟨i0, hi, hz0, hz1, hz2⟩ := info_parts Tryz.info9
  have hm2 := hm
  obtain ⟨⟨g, cap, rfl, _, _⟩, _⟩ := hm
  have hat := hm2.at rfl
  refine wpList_append_own _ hgd s x 74 ho B 9 i0 (.string ⟨#[]⟩) 1 16 Tryz.underlying74 hi hz0 hz1 hz2 rfl (by decide) v l.length (l.map Value.string) hs hown.2 ⟨g, 0, none⟩ m.length cap (m.map Value.string) hx (by simp) ?_
    (by intro u hu; obtain ⟨c, _, rfl⟩ := List.mem_map.1 hu; rfl) (by unfold maxLen; omega) (by omega) hB ?_
  · intro j u hu
    have hj : j < m.length := by have := (List.getElem?_eq_some_iff.1 hu).1; simpa using this
    rw [addr_add, Nat.zero_add, hat j hj, ← hu]
    simp [hj]
  intro v' w' h1 h2 h3
  refine h v' w' ?_ h2
  have h1' : w'.ownsRow B 9 1 v' (l ++ m).length ((l ++ m).map Value.string) := by
    rw [List.map_append, List.length_append]
    exact h1
  refine ⟨?_, h1'⟩
  rcases h1'.2 with ⟨h0, _⟩ | ⟨g', cap', cur, hv, hb, hg, rest⟩
  · have hv := (h3.1 h0).1
    obtain ⟨g2, c2, e, _⟩ := hown.1
    rw [e] at hv
    cases hv
  · exact ⟨g', cap', hv, hb, (Array.getElem?_eq_some_iff.1 hg).1⟩

/-- Fields appended to fields. -/
theorem wpList_catF {ops : Array Oper} {rest : List Oper} {o : Oper} {a : Act} {Q : Exit → Act → World → Prop} (w : World) (hgd : o.guard = none) (s x : Operand)
    (ho : o.op = .call { callee := .builtin .append, args := #[s, x], argTypes := #[24, 24] }) (B Bx : Nat) (v vx : Value) (l m : List Fl) (hs : a.eval s = v) (hown : OwnsF w B v l)
    (hx : a.eval x = vx) (hm : HasF w Bx vx m) (hlen : l.length + m.length ≤ 1000000) (hB : B ≤ w.heap.size)
    (h : ∀ v' w', OwnsF w' B v' (l ++ m) → w.grownBy w' v.ownBlock → wpList Tryz.prog ops Q rest (a.put o.dst v') w') :
    wpList Tryz.prog ops Q (o :: rest) a w := by
  obtain ⟨i0, hi, hz0, hz1, hz2⟩ := info_parts Tryz.infoF
  have hm2 := hm
  rcases hm with ⟨rfl, rfl⟩ | ⟨g, cap, cur, rfl, _, _⟩
  · refine wpList_append_own_none hgd s x 24 ho B 81 i0 2 Tryz.underlying24 hi v l.length (cellsF l) hs hown hx ?_
    refine h v w (by rw [List.append_nil]; exact hown) (grown_self _ _)
  · refine wpList_append_own _ hgd s x 24 ho B 81 i0 (.agg #[.string ⟨#[]⟩, .string ⟨#[]⟩]) 2 32 Tryz.underlying24 hi hz0 hz1 hz2 rfl (by decide) v l.length (cellsF l) hs hown ⟨g, 0, none⟩ m.length cap (cellsF m) hx (cellsF_length m) (cells_of m hm2.at)
      (cellsF_one m) (by unfold maxLen; omega) (by omega) hB ?_
    intro v' w' h1 h2 _
    refine h v' w' ?_ h2
    unfold OwnsF
    rw [cellsF_append, List.length_append]
    exact h1

theorem partsF_size : ∀ (n : Nat) (l cur : List UInt8) (op : Bool), l.length ≤ n → ∀ p ∈ partsF cur op l, p.length ≤ cur.length + l.length := by
  intro n
  induction n with
  | zero =>
    intro l cur op h p hp
    have e : l = [] := List.eq_nil_of_length_eq_zero (by omega)
    subst e
    rw [partsF_nil] at hp
    rw [List.mem_singleton.1 hp]; simp
  | succ n ih =>
    intro l cur op h p hp
    cases l with
    | nil => rw [partsF_nil] at hp; rw [List.mem_singleton.1 hp]; simp
    | cons c r =>
      simp only [List.length_cons] at h ⊢
      by_cases h1 : op = false ∧ c.toNat = 44
      · obtain ⟨rfl, h1⟩ := h1
        rw [partsF_comma _ _ h1] at hp
        rcases List.mem_cons.1 hp with rfl | hp
        · omega
        · have := ih r [] false (by omega) p hp
          simp at this
          omega
      · by_cases h2 : c.toNat = 34
        · rw [partsF_quote _ _ _ h2] at hp
          have := ih r (cur ++ [c]) (!op) (by omega) p hp
          simp at this
          omega
        · by_cases h3 : op = true ∧ c.toNat = 92
          · obtain ⟨rfl, h3⟩ := h3
            rw [partsF_take _ _ h3] at hp
            cases r with
            | nil => simp at hp; subst hp; simp
            | cons d r =>
              simp only [List.length_cons] at h ⊢
              have := ih r (cur ++ [c] ++ [d]) true (by omega) p hp
              simp at this
              omega
          · rw [partsF_plain _ _ _ h1 h2 h3] at hp
            have := ih r (cur ++ [c]) op (by omega) p hp
            simp at this
            omega
theorem items_size (s : ByteArray) : ∀ x ∈ itemsA s, x.size ≤ 400 := by
  intro x hx
  cases h : visB s with
  | false => rw [← itemsA_no h] at hx; cases hx
  | true =>
    rw [← itemsA_yes h] at hx
    unfold itemsT itemsOf at hx
    obtain ⟨p, hp, hxp⟩ := List.mem_flatMap.1 hx
    have h1 := partsF_size s.data.toList.length s.data.toList [] false (Nat.le_refl _) p hp
    have h2 := visB_size h
    have h3 : s.data.toList.length = s.size := by simp
    unfold one at hxp
    split at hxp
    · rw [List.mem_singleton.1 hxp]
      have h4 := trimB_size ⟨p.toArray⟩
      have h5 : (⟨p.toArray⟩ : ByteArray).size = p.length := by show p.toArray.size = _; simp
      simp at h1
      omega
    · cases hxp
theorem rest_hop (ns : List ByteArray) : restB (ns.map lowS) = hopP ns := by
  funext f
  rw [hopP_any]
  unfold restB
  rw [List.any_map]
  rfl
theorem hopN_size : ∀ n ∈ hopN, n.size ≤ 400 := by decide
theorem strs_hop (w : World) : Strs ((w.alloc (.map #[] 0)).alloc (.cells (hopN.map Value.string).toArray 9)) (.slice (some ⟨w.heap.size + 1, 0, none⟩) 7 7) hopN := by
  have h := strs_lit (w.alloc (.map #[] 0)) hopN (by decide)
  have e : (w.alloc (.map #[] 0)).heap.size = w.heap.size + 1 := by simp
  rw [e] at h
  exact h
theorem owns_hop (w : World) : OwnsS (w.alloc (.cells (hopN.map Value.string).toArray 9)) w.heap.size (.slice (some ⟨w.heap.size, 0, none⟩) 7 7) hopN :=
  ⟨⟨w.heap.size, 7, rfl, Nat.le_refl _, by simp⟩, World.ownsRow_lit w (hopN.map Value.string).toArray 7 (Nat.le_refl _) (by unfold maxLen; decide) rfl⟩
theorem hopA_length (l : List Fl) : (hopA l).length ≤ 30 := (fldsOk_parts (hopA_ok l)).1
end Go.Proofs.YteibacmohplblaaGreatDoor

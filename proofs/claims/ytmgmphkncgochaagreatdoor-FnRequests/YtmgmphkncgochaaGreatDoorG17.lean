/-
  A scope in which the run jumps to several labels: what holds at each jump, and a measure that every pass lowers.
  The contract of the program's Items, whose states are labels.
  How many items a text has at most, and what is kept of an owned slice where another one is marked.
-/
import Derived.ScopeJumps
import Derived.Test.YtmgmphkncgochaaGreatDoorG16
import Derived.WalkMore
import Derived.Test.YtmgmphkncgochaaGreatDoorG13
namespace Go.Proofs.YtmgmphkncgochaaGreatDoor

/-- As Q; by a goto to a label: what J says of that label. -/
def jumps (J : Nat → Act → World → Prop) (Q : Exit → Act → World → Prop) : Exit → Act → World → Prop
  | .goto l, a, w => J l a w
  | e, a, w => Q e a w

theorem wp_scope_many {P : Program} {a : Act} {w : World} {Q : Exit → Act → World → Prop} {c : Code} (J : Nat → Act → World → Prop) (μ : Nat → Act → World → Nat)
    (first : c.wp P (jumps J Q) a w)
    (pass : ∀ l a w, J l a w → ∃ rest, findLabel c l = some rest ∧ rest.wp P (jumps (fun l' a' w' => J l' a' w' ∧ μ l' a' w' < μ l a w) Q) a w) : (Code.scope c).wp P Q a w := by
  intro b k cs
  have key : ∀ n l a w, μ l a w = n → J l a w → ∃ rest, findLabel c l = some rest ∧ ∃ e a' w', Q e a' w' ∧ Arrives P (lone (b.at a (.code rest :: .inScope c :: k)) cs w) b k cs e a' w' := by
    intro n
    induction n using Nat.strongRecOn with
    | _ n ih =>
      intro l a w hn hJ
      obtain ⟨rest, hf, hw⟩ := pass l a w hJ
      refine ⟨rest, hf, ?_⟩
      obtain ⟨e, a₁, w₁, hq, harr⟩ := hw b (.inScope c :: k) cs
      cases e with
      | normal => exact ⟨.normal, a₁, w₁, hq, Steps.trans harr (.one step_inScope)⟩
      | exit id => exact ⟨.exit id, a₁, w₁, hq, fun k' hk => harr k' (by simp [exitTo, hk])⟩
      | goto l' =>
        obtain ⟨hJ', hlt⟩ := hq
        obtain ⟨rest', hf', e₂, a₂, w₂, hq₂, harr₂⟩ := ih _ (by omega) l' a₁ w₁ rfl hJ'
        have hg : gotoIn l' (.inScope c :: k) = some (.code rest' :: .inScope c :: k) := by simp [gotoIn, hf']
        exact ⟨e₂, a₂, w₂, hq₂, .of_steps (harr _ hg) harr₂⟩
      | ret => exact ⟨_, a₁, w₁, hq, harr⟩
      | panic ch => exact ⟨_, a₁, w₁, hq, harr⟩
      | outgrown => exact ⟨_, a₁, w₁, hq, harr⟩
  obtain ⟨e, a₁, w₁, hq, harr⟩ := first b (.inScope c :: k) cs
  cases e with
  | normal => exact ⟨.normal, a₁, w₁, hq, .head step_scope (Steps.trans harr (.one step_inScope))⟩
  | exit id => exact ⟨.exit id, a₁, w₁, hq, fun k' hk => .head step_scope (harr k' (by simp [exitTo, hk]))⟩
  | goto l' =>
    have hJ' : J l' a₁ w₁ := hq
    obtain ⟨rest', hf', e₂, a₂, w₂, hq₂, harr₂⟩ := key _ l' a₁ w₁ rfl hJ'
    have hg : gotoIn l' (.inScope c :: k) = some (.code rest' :: .inScope c :: k) := by simp [gotoIn, hf']
    exact ⟨e₂, a₂, w₂, hq₂, .of_steps (.head step_scope (harr _ hg)) harr₂⟩
  | ret => exact ⟨_, a₁, w₁, hq, .of_steps (.one step_scope) harr⟩
  | panic ch => exact ⟨_, a₁, w₁, hq, .of_steps (.one step_scope) harr⟩
  | outgrown => exact ⟨_, a₁, w₁, hq, .of_steps (.one step_scope) harr⟩
end Go.Proofs.YtmgmphkncgochaaGreatDoor
namespace Go.Proofs.YtmgmphkncgochaaGreatDoor
open Go.RowKit

/-- The frame at a state. -/
def frI (s : ByteArray) (v : Value) (a n : Int) (u : Nat → Value) : Act := { tmps := #[.string s, undef, .slice none 0 0, v, .int .i64 a, .int .i64 n, u 6, u 7, u 8, u 9, u 10, u 11, u 12, u 13, u 14, u 15, u 16, u 17, u 18, u 19, u 20, u 21, u 22, u 23, u 24, u 25, u 26, u 27, u 28, u 29, u 30, u 31, u 32, u 33, u 34, u 35, u 36, u 37, u 38, u 39, u 40, u 41, u 42, u 43, u 44, u 45, u 46, u 47, u 48, u 49, u 50, u 51, u 52, u 53], defers := [] }

/-- What holds at each label. -/
def Ji (s : ByteArray) (w : World) : Nat → Act → World → Prop
  | 0, a, x => ∃ (f k : Nat) (fa n : Int) (v : Value) (out : List ByteArray), (∃ u, a = frI s v fa n u) ∧ fa = (f : Int) ∧ n = (k : Int) ∧ f ≤ s.size ∧ s.size ≤ k ∧ OwnsS x w.heap.size v out ∧ Below w.heap.size w x ∧ out.length ≤ f ∧ Hid (∃ op, At s out f k op)
  | 1, a, x => ∃ (f k : Nat) (fa n : Int) (v : Value) (out : List ByteArray), (∃ u, a = frI s v fa n u) ∧ fa = (f : Int) ∧ n = (k : Int) ∧ f ≤ s.size ∧ f ≤ k ∧ k ≤ s.size ∧ OwnsS x w.heap.size v out ∧ Below w.heap.size w x ∧ out.length ≤ f ∧ Hid (At s out f k false)
  | 2, a, x => ∃ (f k : Nat) (fa n : Int) (v : Value) (out : List ByteArray), (∃ u, a = frI s v fa n u) ∧ fa = (f : Int) ∧ n = (k : Int) ∧ f ≤ s.size ∧ f ≤ k ∧ k ≤ s.size + 1 ∧ OwnsS x w.heap.size v out ∧ Below w.heap.size w x ∧ out.length ≤ f ∧ Hid (At s out f k true)
  | 3, a, x => ∃ (f k : Nat) (fa n : Int) (v : Value) (out : List ByteArray), (∃ u, a = frI s v fa n u) ∧ fa = (f : Int) ∧ n = (k : Int) ∧ f ≤ s.size ∧ f ≤ k ∧ k ≤ s.size ∧ OwnsS x w.heap.size v out ∧ Below w.heap.size w x ∧ out.length ≤ f ∧ Hid (At s out f (k + 1) true)
  | _, _, _ => False
/-- What every pass lowers. -/
def mi (s : ByteArray) : Nat → Act → World → Nat
  | 0, _, _ => 0
  | _, a, _ => 2 * (s.size + 3 - (intOf (a.tmps.getD 5 undef)).toNat) + 1
theorem jumpI0 {s : ByteArray} {w x : World} {a : Act} {m f k : Nat} {fa n : Int} {v : Value} {out : List ByteArray} (hf : a = frI s v fa n (fun i => a.tmps.getD i undef)) (hfa : fa = (f : Int)) (hn : n = (k : Int)) (h1 : f ≤ s.size) (h2 : s.size ≤ k) (ho : OwnsS x w.heap.size v out) (hb : Below w.heap.size w x) (hl : out.length ≤ f) (h : Hid (∃ op, At s out f k op)) (hm : 0 < m) : Ji s w 0 a x ∧ mi s 0 a x < m := by
  obtain ⟨u, rfl⟩ : ∃ u, a = frI s v fa n u := ⟨_, hf⟩
  refine ⟨⟨f, k, fa, n, v, out, ⟨u, rfl⟩, hfa, hn, h1, h2, ho, hb, hl, h⟩, ?_⟩
  exact hm
theorem jumpI1 {s : ByteArray} {w x : World} {a : Act} {m f k : Nat} {fa n : Int} {v : Value} {out : List ByteArray} (hf : a = frI s v fa n (fun i => a.tmps.getD i undef)) (hfa : fa = (f : Int)) (hn : n = (k : Int)) (h1 : f ≤ s.size) (h2 : f ≤ k) (h3 : k ≤ s.size) (ho : OwnsS x w.heap.size v out) (hb : Below w.heap.size w x) (hl : out.length ≤ f) (h : Hid (At s out f k false)) (hm : 2 * (s.size + 3 - k) + 1 < m) : Ji s w 1 a x ∧ mi s 1 a x < m := by
  obtain ⟨u, rfl⟩ : ∃ u, a = frI s v fa n u := ⟨_, hf⟩
  refine ⟨⟨f, k, fa, n, v, out, ⟨u, rfl⟩, hfa, hn, h1, h2, h3, ho, hb, hl, h⟩, ?_⟩
  show 2 * (s.size + 3 - n.toNat) + 1 < m
  rw [hn, Int.toNat_natCast]
  exact hm
theorem jumpI2 {s : ByteArray} {w x : World} {a : Act} {m f k : Nat} {fa n : Int} {v : Value} {out : List ByteArray} (hf : a = frI s v fa n (fun i => a.tmps.getD i undef)) (hfa : fa = (f : Int)) (hn : n = (k : Int)) (h1 : f ≤ s.size) (h2 : f ≤ k) (h3 : k ≤ s.size + 1) (ho : OwnsS x w.heap.size v out) (hb : Below w.heap.size w x) (hl : out.length ≤ f) (h : Hid (At s out f k true)) (hm : 2 * (s.size + 3 - k) + 1 < m) : Ji s w 2 a x ∧ mi s 2 a x < m := by
  obtain ⟨u, rfl⟩ : ∃ u, a = frI s v fa n u := ⟨_, hf⟩
  refine ⟨⟨f, k, fa, n, v, out, ⟨u, rfl⟩, hfa, hn, h1, h2, h3, ho, hb, hl, h⟩, ?_⟩
  show 2 * (s.size + 3 - n.toNat) + 1 < m
  rw [hn, Int.toNat_natCast]
  exact hm
theorem jumpI3 {s : ByteArray} {w x : World} {a : Act} {m f k : Nat} {fa n : Int} {v : Value} {out : List ByteArray} (hf : a = frI s v fa n (fun i => a.tmps.getD i undef)) (hfa : fa = (f : Int)) (hn : n = (k : Int)) (h1 : f ≤ s.size) (h2 : f ≤ k) (h3 : k ≤ s.size) (ho : OwnsS x w.heap.size v out) (hb : Below w.heap.size w x) (hl : out.length ≤ f) (h : Hid (At s out f (k + 1) true)) (hm : 2 * (s.size + 3 - k) + 1 < m) : Ji s w 3 a x ∧ mi s 3 a x < m := by
  obtain ⟨u, rfl⟩ : ∃ u, a = frI s v fa n u := ⟨_, hf⟩
  refine ⟨⟨f, k, fa, n, v, out, ⟨u, rfl⟩, hfa, hn, h1, h2, h3, ho, hb, hl, h⟩, ?_⟩
  show 2 * (s.size + 3 - n.toNat) + 1 < m
  rw [hn, Int.toNat_natCast]
  exact hm
theorem firstI0 {s : ByteArray} {w x : World} {a : Act} {f k : Nat} {fa n : Int} {v : Value} {out : List ByteArray} (hf : a = frI s v fa n (fun i => a.tmps.getD i undef)) (hfa : fa = (f : Int)) (hn : n = (k : Int)) (h1 : f ≤ s.size) (h2 : s.size ≤ k) (ho : OwnsS x w.heap.size v out) (hb : Below w.heap.size w x) (hl : out.length ≤ f) (h : Hid (∃ op, At s out f k op)) : Ji s w 0 a x :=
  ⟨f, k, fa, n, v, out, ⟨_, hf⟩, hfa, hn, h1, h2, ho, hb, hl, h⟩
theorem firstI1 {s : ByteArray} {w x : World} {a : Act} {f k : Nat} {fa n : Int} {v : Value} {out : List ByteArray} (hf : a = frI s v fa n (fun i => a.tmps.getD i undef)) (hfa : fa = (f : Int)) (hn : n = (k : Int)) (h1 : f ≤ s.size) (h2 : f ≤ k) (h3 : k ≤ s.size) (ho : OwnsS x w.heap.size v out) (hb : Below w.heap.size w x) (hl : out.length ≤ f) (h : Hid (At s out f k false)) : Ji s w 1 a x :=
  ⟨f, k, fa, n, v, out, ⟨_, hf⟩, hfa, hn, h1, h2, h3, ho, hb, hl, h⟩
theorem firstI2 {s : ByteArray} {w x : World} {a : Act} {f k : Nat} {fa n : Int} {v : Value} {out : List ByteArray} (hf : a = frI s v fa n (fun i => a.tmps.getD i undef)) (hfa : fa = (f : Int)) (hn : n = (k : Int)) (h1 : f ≤ s.size) (h2 : f ≤ k) (h3 : k ≤ s.size + 1) (ho : OwnsS x w.heap.size v out) (hb : Below w.heap.size w x) (hl : out.length ≤ f) (h : Hid (At s out f k true)) : Ji s w 2 a x :=
  ⟨f, k, fa, n, v, out, ⟨_, hf⟩, hfa, hn, h1, h2, h3, ho, hb, hl, h⟩
theorem firstI3 {s : ByteArray} {w x : World} {a : Act} {f k : Nat} {fa n : Int} {v : Value} {out : List ByteArray} (hf : a = frI s v fa n (fun i => a.tmps.getD i undef)) (hfa : fa = (f : Int)) (hn : n = (k : Int)) (h1 : f ≤ s.size) (h2 : f ≤ k) (h3 : k ≤ s.size) (ho : OwnsS x w.heap.size v out) (hb : Below w.heap.size w x) (hl : out.length ≤ f) (h : Hid (At s out f (k + 1) true)) : Ji s w 3 a x :=
  ⟨f, k, fa, n, v, out, ⟨_, hf⟩, hfa, hn, h1, h2, h3, ho, hb, hl, h⟩
theorem mi_fr1 (s : ByteArray) (v : Value) (fa : Int) (k : Nat) (u : Nat → Value) (x : World) : mi s 1 (frI s v fa (k : Int) u) x = 2 * (s.size + 3 - k) + 1 := rfl
theorem mi_fr2 (s : ByteArray) (v : Value) (fa : Int) (k : Nat) (u : Nat → Value) (x : World) : mi s 2 (frI s v fa (k : Int) u) x = 2 * (s.size + 3 - k) + 1 := rfl
theorem mi_fr3 (s : ByteArray) (v : Value) (fa : Int) (k : Nat) (u : Nat → Value) (x : World) : mi s 3 (frI s v fa (k : Int) u) x = 2 * (s.size + 3 - k) + 1 := rfl
theorem gen_of {P : Program} {c : Code} {Q : Exit → Act → World → Prop} {a : Act} {x : World} (I : Act → World → Prop) (gen : ∀ a x, I a x → Code.wp P c Q a x) (h : I a x) : Code.wp P c Q a x := gen a x h
theorem one_length (x : ByteArray) : (one x).length ≤ 1 := by unfold one; split <;> simp

end Go.Proofs.YtmgmphkncgochaaGreatDoor
namespace Go.Proofs.YtmgmphkncgochaaGreatDoor
open Go.RowKit

theorem partsF_length : ∀ (n : Nat) (l cur : List UInt8) (op : Bool), l.length ≤ n → (partsF cur op l).length ≤ l.length + 1 := by
  intro n
  induction n with
  | zero =>
    intro l cur op h
    have e : l = [] := List.eq_nil_of_length_eq_zero (by omega)
    subst e
    rw [partsF_nil]; simp
  | succ n ih =>
    intro l cur op h
    cases l with
    | nil => rw [partsF_nil]; simp
    | cons c r =>
      simp only [List.length_cons] at h
      by_cases h1 : op = false ∧ c.toNat = 44
      · obtain ⟨rfl, h1⟩ := h1
        rw [partsF_comma _ _ h1]
        have := ih r [] false (by omega)
        simp only [List.length_cons]
        omega
      · by_cases h2 : c.toNat = 34
        · rw [partsF_quote _ _ _ h2]
          have := ih r (cur ++ [c]) (!op) (by omega)
          simp only [List.length_cons]
          omega
        · by_cases h3 : op = true ∧ c.toNat = 92
          · obtain ⟨rfl, h3⟩ := h3
            rw [partsF_take _ _ h3]
            cases r with
            | nil => simp
            | cons d r =>
              simp only [List.length_cons] at h ⊢
              have := ih r (cur ++ [c] ++ [d]) true (by omega)
              show (partsF (cur ++ [c] ++ [d]) true r).length ≤ _
              omega
          · rw [partsF_plain _ _ _ h1 h2 h3]
            have := ih r (cur ++ [c]) op (by omega)
            simp only [List.length_cons]
            omega
theorem itemsOf_length (ps : List (List UInt8)) : (itemsOf ps).length ≤ ps.length := by
  induction ps with
  | nil => simp [itemsOf]
  | cons p ps ih =>
    rw [itemsOf_cons, List.length_append, List.length_cons]
    have := one_length ⟨p.toArray⟩
    omega
theorem itemsA_length (s : ByteArray) : (itemsA s).length ≤ 401 := by
  cases h : visB s with
  | false => rw [← itemsA_no h]; simp
  | true =>
    rw [← itemsA_yes h]
    have h1 := vis_size h
    have h2 := partsF_length s.data.toList.length s.data.toList [] false (Nat.le_refl _)
    have h3 := itemsOf_length (partsF [] false s.data.toList)
    have h4 : s.data.toList.length = s.size := by simp
    unfold itemsT
    omega

theorem OwnsS.but {w w' : World} {B g : Nat} {v : Value} {l : List ByteArray} (h : OwnsS w B v l) (hb : But g w w') (hne : ∀ k, v.ownBlock = some k → k ≠ g) : OwnsS w' B v l := by
  obtain ⟨⟨g0, cap, hv, hbg, hg⟩, h1, h2⟩ := h
  refine ⟨⟨g0, cap, hv, hbg, Nat.lt_of_lt_of_le hg hb.2.2.2.1⟩, h1, ?_⟩
  rcases h2 with h0 | ⟨g', cap', cur, hv', hb', hg', rest⟩
  · exact .inl h0
  · refine .inr ⟨g', cap', cur, hv', hb', ?_, rest⟩
    rw [hb.2.2.2.2 g' (Array.getElem?_eq_some_iff.1 hg').1 (hne g' (by rw [hv']; rfl))]
    exact hg'
theorem But.low {g B : Nat} {w w' : World} (h : But g w w') (hB : B ≤ g) (hs : B ≤ w.heap.size) : Below B w w' :=
  ⟨h.1, h.2.1, h.2.2.1, h.2.2.2.1, fun k hk => h.2.2.2.2 k (by omega) (by omega)⟩
theorem OwnsS.under {w : World} {B : Nat} {v : Value} {l : List ByteArray} (h : OwnsS w B v l) : ∀ k, v.ownBlock = some k → k < w.heap.size := fun k hk => (World.ownsRow.lt h.2 k hk).2
end Go.Proofs.YtmgmphkncgochaaGreatDoor

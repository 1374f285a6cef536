/-
  The contract of the program's Items, whose states are labels.
-/
import Derived.Test.YtnachhmhjodbhaaGreatDoorG12
import Derived.Test.YtnachhmhjodbhaaGreatDoorG13
import Derived.WalkMore
namespace Go.Proofs.YtnachhmhjodbhaaGreatDoor
open Go.RowKit

theorem withItem (v : Value) (out : List ByteArray) (x : ByteArray) (B : Nat) (w : World) (hx : x.size ≤ 1048576) (hown : OwnsS w B v out) (hB : B ≤ w.heap.size) (hl : out.length ≤ 1048576) :
    Calls Tryz.prog 74 #[v, .string x] w fun e w' => ∃ v', e = .returned v' ∧ OwnsS w' B v' (out ++ one x) ∧ Below B w w' := by
  by_cases ht : 0 < (trimB x).size
  · have hfull := full ht
    have hfe : (trimB x).toList.isEmpty = false := by simpa using hfull
    have HO : Hid (one x = [trimB x]) := one_yes ht
    clear ht
    go_enter Tryz.func74, Tryz.ntmps74
    go_wp2_with (first | (go_at_call 73; refine (implTrim _ _ hx).mono ?_; rintro e w1 ⟨rfl, hb1⟩; have ho1 := hown.kept hb1; have hB1 : B ≤ w1.heap.size := Nat.le_trans hB hb1.size) | (at_builtin; refine wpList_pushS _ rfl (.tmp 11) (.tmp 13) rfl B _ _ _ rfl ho1 rfl (by omega) hB1 ?_; intro v2 w2 ho2 hg2))
    go_ret
    exact ⟨_, rfl, by rw [HO.out]; exact ho2, (hb1.mono hB).trans ((Below.refl B w1).grown hg2 hB1 (OwnsS.from ho1))⟩
  · have hnil := void ht
    have HO : Hid (one x = []) := one_no ht
    clear ht
    go_enter Tryz.func74, Tryz.ntmps74
    go_wp2_with (go_at_call 73; refine (implTrim _ _ hx).mono ?_; rintro e w1 ⟨rfl, hb1⟩)
    go_ret
    exact ⟨_, rfl, by rw [HO.out, List.append_nil]; exact hown.kept hb1, hb1.mono hB⟩

/-- The frame at a state. -/
def frI (s : ByteArray) (v : Value) (a n : Int) (u : Nat → Value) : Act := { tmps := #[.string s, undef, .slice none 0 0, v, .int .i64 a, .int .i64 n, u 6, u 7, u 8, u 9, u 10, u 11, u 12, u 13, u 14, u 15, u 16, u 17, u 18, u 19, u 20, u 21, u 22, u 23, u 24, u 25, u 26, u 27, u 28, u 29, u 30, u 31, u 32, u 33, u 34, u 35, u 36, u 37, u 38, u 39, u 40, u 41, u 42, u 43, u 44, u 45, u 46, u 47, u 48, u 49, u 50, u 51, u 52, u 53], defers := [] }

/-- What holds at each label. -/
def Ji (s : ByteArray) (w : World) : Nat → Act → World → Prop
  | 0, a, x => ∃ (f k : Nat) (fa n : Int) (v : Value) (out : List ByteArray), (∃ u, a = frI s v fa n u) ∧ fa = (f : Int) ∧ n = (k : Int) ∧ f ≤ s.size ∧ s.size ≤ k ∧ OwnsS x w.heap.size v out ∧ Below w.heap.size w x ∧ out.length ≤ f ∧ Hid (∃ op, At s out f k op)
  | 1, a, x => ∃ (f k : Nat) (fa n : Int) (v : Value) (out : List ByteArray), (∃ u, a = frI s v fa n u) ∧ fa = (f : Int) ∧ n = (k : Int) ∧ f ≤ s.size ∧ f ≤ k ∧ k ≤ s.size ∧ OwnsS x w.heap.size v out ∧ Below w.heap.size w x ∧ out.length ≤ f ∧ Hid (At s out f k false)
  | 2, a, x => ∃ (f k : Nat) (fa n : Int) (v : Value) (out : List ByteArray), (∃ u, a = frI s v fa n u) ∧ fa = (f : Int) ∧ n = (k : Int) ∧ f ≤ s.size ∧ f ≤ k ∧ k ≤ s.size + 1 ∧ OwnsS x w.heap.size v out ∧ Below w.heap.size w x ∧ out.length ≤ f ∧ Hid (At s out f k true)
  | 3, a, x => ∃ (f k : Nat) (fa n : Int) (v : Value) (out : List ByteArray), (∃ u, a = frI s v fa n u) ∧ fa = (f : Int) ∧ n = (k : Int) ∧ f ≤ s.size ∧ f ≤ k ∧ k ≤ s.size ∧ OwnsS x w.heap.size v out ∧ Below w.heap.size w x ∧ out.length ≤ f ∧ Hid (At s out f (k + 1) true)
  | _, _, _ => False
/-- What every pass lowers. -/
def mi (s : ByteArray) : Nat → Act → World → Nat
  | 0, _, _ => 0
  | _, a, _ => 2 * (s.size + 3 - (intOf (a.tmps.getD 5 undef)).toNat) + 1
theorem jumpI0 {s : ByteArray} {w x : World} {a : Act} {m f k : Nat} {fa n : Int} {v : Value} {out : List ByteArray} (hf : a = frI s v fa n (fun i => a.tmps.getD i undef)) (hfa : fa = (f : Int)) (hn : n = (k : Int)) (h1 : f ≤ s.size) (h2 : s.size ≤ k) (ho : OwnsS x w.heap.size v out) (hb : Below w.heap.size w x) (hl : out.length ≤ f) (h : Hid (∃ op, At s out f k op)) (hm : 0 < m) : Ji s w 0 a x ∧ mi s 0 a x < m := by
  obtain ⟨u, rfl⟩ : ∃ u, a = frI s v fa n u := ⟨_, hf⟩
  refine ⟨⟨f, k, fa, n, v, out, ⟨u, rfl⟩, hfa, hn, h1, h2, ho, hb, hl, h⟩, ?_⟩
  exact hm
theorem jumpI1 {s : ByteArray} {w x : World} {a : Act} {m f k : Nat} {fa n : Int} {v : Value} {out : List ByteArray} (hf : a = frI s v fa n (fun i => a.tmps.getD i undef)) (hfa : fa = (f : Int)) (hn : n = (k : Int)) (h1 : f ≤ s.size) (h2 : f ≤ k) (h3 : k ≤ s.size) (ho : OwnsS x w.heap.size v out) (hb : Below w.heap.size w x) (hl : out.length ≤ f) (h : Hid (At s out f k false)) (hm : 2 * (s.size + 3 - k) + 1 < m) : Ji s w 1 a x ∧ mi s 1 a x < m := by
  obtain ⟨u, rfl⟩ : ∃ u, a = frI s v fa n u := ⟨_, hf⟩
  refine ⟨⟨f, k, fa, n, v, out, ⟨u, rfl⟩, hfa, hn, h1, h2, h3, ho, hb, hl, h⟩, ?_⟩
  show 2 * (s.size + 3 - n.toNat) + 1 < m
  rw [hn, Int.toNat_natCast]
  exact hm
theorem jumpI2 {s : ByteArray} {w x : World} {a : Act} {m f k : Nat} {fa n : Int} {v : Value} {out : List ByteArray} (hf : a = frI s v fa n (fun i => a.tmps.getD i undef)) (hfa : fa = (f : Int)) (hn : n = (k : Int)) (h1 : f ≤ s.size) (h2 : f ≤ k) (h3 : k ≤ s.size + 1) (ho : OwnsS x w.heap.size v out) (hb : Below w.heap.size w x) (hl : out.length ≤ f) (h : Hid (At s out f k true)) (hm : 2 * (s.size + 3 - k) + 1 < m) : Ji s w 2 a x ∧ mi s 2 a x < m := by
  obtain ⟨u, rfl⟩ : ∃ u, a = frI s v fa n u := ⟨_, hf⟩
  refine ⟨⟨f, k, fa, n, v, out, ⟨u, rfl⟩, hfa, hn, h1, h2, h3, ho, hb, hl, h⟩, ?_⟩
  show 2 * (s.size + 3 - n.toNat) + 1 < m
  rw [hn, Int.toNat_natCast]
  exact hm
theorem jumpI3 {s : ByteArray} {w x : World} {a : Act} {m f k : Nat} {fa n : Int} {v : Value} {out : List ByteArray} (hf : a = frI s v fa n (fun i => a.tmps.getD i undef)) (hfa : fa = (f : Int)) (hn : n = (k : Int)) (h1 : f ≤ s.size) (h2 : f ≤ k) (h3 : k ≤ s.size) (ho : OwnsS x w.heap.size v out) (hb : Below w.heap.size w x) (hl : out.length ≤ f) (h : Hid (At s out f (k + 1) true)) (hm : 2 * (s.size + 3 - k) + 1 < m) : Ji s w 3 a x ∧ mi s 3 a x < m := by
  obtain ⟨u, rfl⟩ : ∃ u, a = frI s v fa n u := ⟨_, hf⟩
  refine ⟨⟨f, k, fa, n, v, out, ⟨u, rfl⟩, hfa, hn, h1, h2, h3, ho, hb, hl, h⟩, ?_⟩
  show 2 * (s.size + 3 - n.toNat) + 1 < m
  rw [hn, Int.toNat_natCast]
  exact hm
theorem firstI0 {s : ByteArray} {w x : World} {a : Act} {f k : Nat} {fa n : Int} {v : Value} {out : List ByteArray} (hf : a = frI s v fa n (fun i => a.tmps.getD i undef)) (hfa : fa = (f : Int)) (hn : n = (k : Int)) (h1 : f ≤ s.size) (h2 : s.size ≤ k) (ho : OwnsS x w.heap.size v out) (hb : Below w.heap.size w x) (hl : out.length ≤ f) (h : Hid (∃ op, At s out f k op)) : Ji s w 0 a x :=
  ⟨f, k, fa, n, v, out, ⟨_, hf⟩, hfa, hn, h1, h2, ho, hb, hl, h⟩
theorem firstI1 {s : ByteArray} {w x : World} {a : Act} {f k : Nat} {fa n : Int} {v : Value} {out : List ByteArray} (hf : a = frI s v fa n (fun i => a.tmps.getD i undef)) (hfa : fa = (f : Int)) (hn : n = (k : Int)) (h1 : f ≤ s.size) (h2 : f ≤ k) (h3 : k ≤ s.size) (ho : OwnsS x w.heap.size v out) (hb : Below w.heap.size w x) (hl : out.length ≤ f) (h : Hid (At s out f k false)) : Ji s w 1 a x :=
  ⟨f, k, fa, n, v, out, ⟨_, hf⟩, hfa, hn, h1, h2, h3, ho, hb, hl, h⟩
theorem firstI2 {s : ByteArray} {w x : World} {a : Act} {f k : Nat} {fa n : Int} {v : Value} {out : List ByteArray} (hf : a = frI s v fa n (fun i => a.tmps.getD i undef)) (hfa : fa = (f : Int)) (hn : n = (k : Int)) (h1 : f ≤ s.size) (h2 : f ≤ k) (h3 : k ≤ s.size + 1) (ho : OwnsS x w.heap.size v out) (hb : Below w.heap.size w x) (hl : out.length ≤ f) (h : Hid (At s out f k true)) : Ji s w 2 a x :=
  ⟨f, k, fa, n, v, out, ⟨_, hf⟩, hfa, hn, h1, h2, h3, ho, hb, hl, h⟩
theorem mi_fr1 (s : ByteArray) (v : Value) (fa : Int) (k : Nat) (u : Nat → Value) (x : World) : mi s 1 (frI s v fa (k : Int) u) x = 2 * (s.size + 3 - k) + 1 := rfl
theorem mi_fr2 (s : ByteArray) (v : Value) (fa : Int) (k : Nat) (u : Nat → Value) (x : World) : mi s 2 (frI s v fa (k : Int) u) x = 2 * (s.size + 3 - k) + 1 := rfl
theorem mi_fr3 (s : ByteArray) (v : Value) (fa : Int) (k : Nat) (u : Nat → Value) (x : World) : mi s 3 (frI s v fa (k : Int) u) x = 2 * (s.size + 3 - k) + 1 := rfl
theorem gen_of {P : Program} {c : Code} {Q : Exit → Act → World → Prop} {a : Act} {x : World} (I : Act → World → Prop) (gen : ∀ a x, I a x → Code.wp P c Q a x) (h : I a x) : Code.wp P c Q a x := gen a x h
theorem one_length (x : ByteArray) : (one x).length ≤ 1 := by unfold one; split <;> simp

set_option maxRecDepth 100000 in
set_option maxHeartbeats 4000000 in
theorem implItems (s : ByteArray) (w : World) (hs : s.size ≤ maxLen) :
    Calls Tryz.prog 51 #[.string s] w fun e w' => ∃ v, e = .returned v ∧ OwnsS w' w.heap.size v (itemsA s) ∧ Below w.heap.size w w' := by
  by_cases hv : visB s = true
  · have hz := vis_sizeI hv
    have HA : Hid (itemsT s = itemsA s) := itemsA_yes hv
    go_enter Tryz.func51, Tryz.ntmps51
    go_wp2
    refine wp_scope_many (Ji s w) (mi s) ?_ ?_
    · go_wp2_with (go_at_call 56; refine (implVis _ _ hs).mono ?_; rintro e w1 ⟨rfl, hb1⟩)
      go_step3
      have hb0 : Below w.heap.size w w1 := ((Below.refl _ w).alloc (Nat.le_refl _) _).trans (hb1.mono (by simp))
      rename_i K hK
      refine hK _ _ ?_
      refine gen_of (Ji s w 1) ?gen ?hJ
      case hJ => exact firstI1 (f := 0) (k := 0) rfl rfl rfl (Nat.zero_le _) (Nat.le_refl _) (Nat.zero_le _) ((OwnsS.born w).kept hb1) hb0 (Nat.le_refl _) (At.start s)
      clear hb0 hb1 hv
      clear hK
      intro a x hJ
      obtain ⟨f, k, fa, n, v, out, ⟨u, rfl⟩, rfl, rfl, hf, hfk, hk, hown, hb, hol, hat⟩ := hJ
      unfold frI
      have hbs := hb.size
      by_cases hlt : k < s.size
      · by_cases h34 : (s[k].toNat : Int) = 34
        · have HN : Hid (At s out f (k + 1) (!false)) := hat.out.quote hlt (by omega) h34
          have hq := ieq_yes h34
          clear h34
          go_wp2
          go_step3
          exact firstI2 rfl (by first | rfl | omega) (by first | rfl | omega) (by omega) (by omega) (by omega) hown hb hol HN
        · have hq := ieq_no h34
          by_cases h44 : (s[k].toNat : Int) = 44
          · have HN : Hid (At s (out ++ one (s.extract f k)) (k + 1) (k + 1) false) := hat.out.comma' hlt h44
            have hq2 := ieq_yes h44
            have hxz : (s.extract f k).size ≤ 1048576 := by have := ext_size s f k; omega
            have h1l := one_length (s.extract f k)
            clear h34 h44
            go_wp2_with (go_at_call 74; refine (withItem _ _ _ w.heap.size _ hxz hown hbs (by omega)).mono ?_; rintro e w2 ⟨v2, rfl, ho2, hb2⟩)
            go_step3
            exact firstI1 rfl (by first | rfl | omega) (by first | rfl | omega) (by omega) (Nat.le_refl _) (by omega) ho2 (hb.trans hb2) (by rw [List.length_append]; omega) HN
          · have HN : Hid (At s out f (k + 1) false) := hat.out.plain hlt (by omega) (fun x => h44 x.2) h34 (by simp)
            have hq2 := ieq_no h44
            clear h34 h44
            go_wp2
            go_step3
            exact firstI1 rfl (by first | rfl | omega) (by first | rfl | omega) (by omega) (by omega) (by omega) hown hb hol HN
      · go_wp2
        go_step3
        exact firstI0 rfl (by first | rfl | omega) (by first | rfl | omega) (by omega) (by omega) hown hb hol ⟨false, hat.out⟩
    · intro l a x hJ
      clear hv
      match l, hJ with
      | 0, hJ =>
        obtain ⟨f, k, fa, n, v, out, ⟨u, rfl⟩, rfl, rfl, hf, hk, hown, hb, hol, hat⟩ := hJ
        refine ⟨_, rfl, ?_⟩
        unfold frI
        obtain ⟨op, hat⟩ := hat.out
        have HN : Hid (out ++ one (s.extract f s.size) = itemsT s) := hat.done (by omega)
        have hxz : (s.extract f s.size).size ≤ 1048576 := by have := ext_size s f s.size; omega
        have hbs := hb.size
        clear hat
        go_wp2_with (go_at_call 74; refine (withItem _ _ _ w.heap.size _ hxz hown hbs (by omega)).mono ?_; rintro e w2 ⟨v2, rfl, ho2, hb2⟩)
        simp only [jumps]
        go_ret
        exact ⟨_, rfl, by rw [← HA.out, ← HN.out]; exact ho2, hb.trans hb2⟩
      | 1, hJ =>
        obtain ⟨f, k, fa, n, v, out, ⟨u, rfl⟩, rfl, rfl, hf, hfk, hk, hown, hb, hol, hat⟩ := hJ
        refine ⟨_, rfl, ?_⟩
        rw [mi_fr1]
        unfold frI
        have hbs := hb.size
        by_cases hlt : k < s.size
        · by_cases h34 : (s[k].toNat : Int) = 34
          · have HN : Hid (At s out f (k + 1) (!false)) := hat.out.quote hlt (by omega) h34
            have hq := ieq_yes h34
            clear h34
            go_wp2
            go_step3
            exact jumpI2 rfl (by first | rfl | omega) (by first | rfl | omega) (by omega) (by omega) (by omega) hown hb hol HN (by omega)
          · have hq := ieq_no h34
            by_cases h44 : (s[k].toNat : Int) = 44
            · have HN : Hid (At s (out ++ one (s.extract f k)) (k + 1) (k + 1) false) := hat.out.comma' hlt h44
              have hq2 := ieq_yes h44
              have hxz : (s.extract f k).size ≤ 1048576 := by have := ext_size s f k; omega
              have h1l := one_length (s.extract f k)
              clear h34 h44
              go_wp2_with (go_at_call 74; refine (withItem _ _ _ w.heap.size _ hxz hown hbs (by omega)).mono ?_; rintro e w2 ⟨v2, rfl, ho2, hb2⟩)
              go_step3
              exact jumpI1 rfl (by first | rfl | omega) (by first | rfl | omega) (by omega) (Nat.le_refl _) (by omega) ho2 (hb.trans hb2) (by rw [List.length_append]; omega) HN (by omega)
            · have HN : Hid (At s out f (k + 1) false) := hat.out.plain hlt (by omega) (fun x => h44 x.2) h34 (by simp)
              have hq2 := ieq_no h44
              clear h34 h44
              go_wp2
              go_step3
              exact jumpI1 rfl (by first | rfl | omega) (by first | rfl | omega) (by omega) (by omega) (by omega) hown hb hol HN (by omega)
        · go_wp2
          go_step3
          exact jumpI0 rfl (by first | rfl | omega) (by first | rfl | omega) (by omega) (by omega) hown hb hol ⟨false, hat.out⟩ (by omega)
      | 2, hJ =>
        obtain ⟨f, k, fa, n, v, out, ⟨u, rfl⟩, rfl, rfl, hf, hfk, hk, hown, hb, hol, hat⟩ := hJ
        refine ⟨_, rfl, ?_⟩
        rw [mi_fr2]
        unfold frI
        have hbs := hb.size
        by_cases hlt : k < s.size
        · by_cases h34 : (s[k].toNat : Int) = 34
          · have HN : Hid (At s out f (k + 1) (!true)) := hat.out.quote hlt (by omega) h34
            have hq := ieq_yes h34
            clear h34
            go_wp2
            go_step3
            exact jumpI1 rfl (by first | rfl | omega) (by first | rfl | omega) (by omega) (by omega) (by omega) hown hb hol HN (by omega)
          · have hq := ieq_no h34
            by_cases h92 : (s[k].toNat : Int) = 92
            · have HN : Hid (At s out f (k + 1 + 1) true) := hat.out.take hlt (by omega) h92
              have hq2 := ieq_yes h92
              clear h34 h92
              go_wp2
              go_step3
              exact jumpI3 rfl (by first | rfl | omega) (by first | rfl | omega) (by omega) (by omega) (by omega) hown hb hol HN (by omega)
            · have HN : Hid (At s out f (k + 1) true) := hat.out.plain hlt (by omega) (by simp) h34 (fun x => h92 x.2)
              have hq2 := ieq_no h92
              clear h34 h92
              go_wp2
              go_step3
              exact jumpI2 rfl (by first | rfl | omega) (by first | rfl | omega) (by omega) (by omega) (by omega) hown hb hol HN (by omega)
        · go_wp2
          go_step3
          exact jumpI0 rfl (by first | rfl | omega) (by first | rfl | omega) (by omega) (by omega) hown hb hol ⟨true, hat.out⟩ (by omega)
      | 3, hJ =>
        obtain ⟨f, k, fa, n, v, out, ⟨u, rfl⟩, rfl, rfl, hf, hfk, hk, hown, hb, hol, hat⟩ := hJ
        refine ⟨_, rfl, ?_⟩
        rw [mi_fr3]
        unfold frI
        go_wp2
        go_step3
        exact jumpI2 rfl (by first | rfl | omega) (by first | rfl | omega) (by omega) (by omega) (by omega) hown hb hol hat (by omega)
      | (n + 4), hJ => exact hJ.elim
  · have hv' : visB s = false := by simpa using hv
    clear hv
    have HA : Hid ([] = itemsA s) := itemsA_no hv'
    go_enter Tryz.func51, Tryz.ntmps51
    go_wp2
    refine wp_scope_many (fun _ _ _ => False) (fun _ _ _ => 0) ?_ (fun _ _ _ h => h.elim)
    go_wp2_with (go_at_call 56; refine (implVis _ _ hs).mono ?_; rintro e w1 ⟨rfl, hb1⟩)
    simp only [jumps]
    go_ret
    exact ⟨_, rfl, by rw [← HA.out]; exact (OwnsS.born w).kept hb1, ((Below.refl _ w).alloc (Nat.le_refl _) _).trans (hb1.mono (by simp))⟩
end Go.Proofs.YtnachhmhjodbhaaGreatDoor

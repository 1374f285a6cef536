/-
  The contracts of Quoted, the specification's and the program's: both answer the quotation of a visible text, and nothing of another.
  What answers vary with, as plain data.
  How long a field's value can be.
  What the program's Selecting answers: names put in order and made one, against the specification's.
-/
import Derived.Test.YtnachhmhjodbhaaGreatDoorG04
import Derived.Test.YtnachhmhjodbhaaGreatDoorG05
import Derived.Test.YtnachhmhjodbhaaGreatDoorG06
import Derived.Test.YtnachhmhjodbhaaGreatDoorG10
import Derived.Lib.SlicesCompact
namespace Go.Proofs.YtnachhmhjodbhaaGreatDoor
open Go.RowKit

/-- A byte within a quotation. -/
def quoC (c : UInt8) : List UInt8 := if c.toNat = 34 ∨ c.toNat = 92 then [92, c] else [c]
def quoL (l : List UInt8) : List UInt8 := l.flatMap quoC
theorem quoL_length (l : List UInt8) : (quoL l).length ≤ 2 * l.length := by
  induction l with
  | nil => simp [quoL]
  | cons c l ih =>
    have e : quoL (c :: l) = quoC c ++ quoL l := by simp [quoL]
    have h2 : (quoC c).length ≤ 2 := by unfold quoC; split <;> simp
    rw [e, List.length_append, List.length_cons]
    omega
theorem quoL_snoc (l : List UInt8) (c : UInt8) : quoL (l ++ [c]) = quoL l ++ quoC c := by simp [quoL]
/-- What is made so far. -/
def quoTo (s : ByteArray) (k : Nat) : List UInt8 := 34 :: quoL (s.data.toList.take k)
theorem quoTo_plain {s : ByteArray} {k : Nat} (h : k < s.size) (h1 : ¬ (s[k].toNat = 34 ∨ s[k].toNat = 92)) : quoTo s k ++ [s[k]] = quoTo s (k + 1) := by
  unfold quoTo
  rw [take_snoc s k h, quoL_snoc]
  unfold quoC
  rw [if_neg h1]
  rfl
theorem quoTo_two {s : ByteArray} {k : Nat} (h : k < s.size) (h1 : s[k].toNat = 34 ∨ s[k].toNat = 92) : quoTo s k ++ [92] ++ [s[k]] = quoTo s (k + 1) := by
  unfold quoTo
  rw [take_snoc s k h, quoL_snoc]
  unfold quoC
  rw [if_pos h1]
  simp
theorem quoTo_length {s : ByteArray} (k : Nat) (hs : s.size ≤ 400) : (quoTo s k).length ≤ 801 := by
  have h1 := quoL_length (s.data.toList.take k)
  have h2 : (s.data.toList.take k).length ≤ s.data.toList.length := List.length_take_le' _ _
  have h3 : s.data.toList.length = s.size := by simp
  unfold quoTo
  rw [List.length_cons]
  omega
/-- The quotation. -/
def quoS (s : ByteArray) : ByteArray := ⟨(34 :: quoL s.data.toList ++ [34]).toArray⟩
theorem quoTo_big {s : ByteArray} (k : Nat) (hs : s.size ≤ 4000000) : (quoTo s k).length ≤ 8000001 := by
  have h1 := quoL_length (s.data.toList.take k)
  have h2 : (s.data.toList.take k).length ≤ s.data.toList.length := List.length_take_le' _ _
  have h3 : s.data.toList.length = s.size := by simp
  unfold quoTo
  rw [List.length_cons]
  omega
theorem quoTo_end {s : ByteArray} {k : Nat} (h : ¬ k < s.size) : (⟨(quoTo s k ++ [34]).toArray⟩ : ByteArray) = quoS s := by
  unfold quoTo quoS; rw [take_all s k h]
/-- What Quoted answers. -/
def quoA (s : ByteArray) : ByteArray := if visB s = true then quoS s else ⟨#[]⟩
theorem ret_str {a b : ByteArray} (h : a = b) : Ending.returned (.string a) = .returned (.string b) := by rw [h]
theorem quoA_no {s : ByteArray} (h : visB s = false) : (⟨#[]⟩ : ByteArray) = quoA s := by unfold quoA; rw [h]; rfl
theorem quoA_yes {s : ByteArray} (h : visB s = true) : quoS s = quoA s := by unfold quoA; rw [h]; rfl
theorem vis_size {s : ByteArray} (h : visB s = true) : s.size ≤ 400 := by
  unfold visB at h; rw [Bool.and_eq_true] at h; exact of_decide_eq_true h.1
theorem vis_at {s : ByteArray} (h : visB s = true) {k : Nat} (hk : k < s.size) : visN (s[k].toNat : Int) = true := by
  unfold visB at h; rw [Bool.and_eq_true] at h
  have := h.2
  unfold allB at this
  rw [List.all_eq_true] at this
  exact this _ (mem_at s k hk)
theorem beq_yes {a b : Int} (h : a = b) : (a == b) = true := by simp [h]
theorem beq_no {a b : Int} (h : a ≠ b) : (a == b) = false := by simp [h]

set_option maxHeartbeats 400000 in
theorem specQuoN (s : ByteArray) (w : World) (hs : s.size ≤ 4000000) :
    Calls Tryz.prog 65 #[.string s] w fun e w' => e = .returned (.string (quoS s)) ∧ Below w.heap.size w w' := by
  go_enter Tryz.func65, Tryz.ntmps65
  go_wp2
  go_loopw [3, 4] (fun v i wr => ∃ k : Nat, k ≤ s.size ∧ i = .int .i64 k ∧ OwnsB wr w.heap.size v (quoTo s k) ∧ Below w.heap.size w wr) (fun _ i _ => s.size - (intOf i).toNat)
  case atStart => exact ⟨0, Nat.zero_le _, rfl, OwnsB.one w 34, (Below.refl _ w).alloc (Nat.le_refl _) _⟩
  case round =>
    obtain ⟨k, hk, rfl, hown, hb⟩ := hrel
    have hl := quoTo_big k hs
    have hbs := hb.size
    by_cases hlt : k < s.size
    · by_cases h34 : (s[k].toNat : Int) = 34
      · have HE : Hid (quoTo s k ++ [92] ++ [s[k]] = quoTo s (k + 1)) := quoTo_two hlt (by omega)
        have hq := beq_yes h34
        clear h34
        go_wp2_with (first | (at_builtin; refine wpList_push _ rfl (.tmp 22) (.tmp 23) rfl w.heap.size _ _ _ 92 rfl rfl hown rfl (by omega) hbs ?_; intro v1 w1 ho1 hg1; have hb1 := hb.grown hg1 hbs (OwnsB.from hown); have hbs1 := hb1.size) | (at_builtin; refine wpList_push _ rfl (.tmp 25) (.tmp 29) rfl w.heap.size _ _ _ s[k] rfl rfl ho1 rfl (by simp; omega) hbs1 ?_; intro v2 w2 ho2 hg2))
        go_roundw
        case rel => exact ⟨k + 1, by omega, by go_num, by rw [← HE.out]; exact ho2, hb1.grown hg2 hbs1 (OwnsB.from ho1)⟩
        case measure => simp [intOf]; omega
      · have hq := beq_no h34
        by_cases h92 : (s[k].toNat : Int) = 92
        · have HE : Hid (quoTo s k ++ [92] ++ [s[k]] = quoTo s (k + 1)) := quoTo_two hlt (by omega)
          have hq2 := beq_yes h92
          clear h34 h92
          go_wp2_with (first | (at_builtin; refine wpList_push _ rfl (.tmp 22) (.tmp 23) rfl w.heap.size _ _ _ 92 rfl rfl hown rfl (by omega) hbs ?_; intro v1 w1 ho1 hg1; have hb1 := hb.grown hg1 hbs (OwnsB.from hown); have hbs1 := hb1.size) | (at_builtin; refine wpList_push _ rfl (.tmp 25) (.tmp 29) rfl w.heap.size _ _ _ s[k] rfl rfl ho1 rfl (by simp; omega) hbs1 ?_; intro v2 w2 ho2 hg2))
          go_roundw
          case rel => exact ⟨k + 1, by omega, by go_num, by rw [← HE.out]; exact ho2, hb1.grown hg2 hbs1 (OwnsB.from ho1)⟩
          case measure => simp [intOf]; omega
        · have HE : Hid (quoTo s k ++ [s[k]] = quoTo s (k + 1)) := quoTo_plain hlt (by omega)
          have hq2 := beq_no h92
          clear h34 h92
          go_wp2_with (at_builtin; refine wpList_push _ rfl (.tmp 25) (.tmp 29) rfl w.heap.size _ _ _ s[k] rfl rfl hown rfl (by omega) hbs ?_; intro v2 w2 ho2 hg2)
          go_roundw
          case rel => exact ⟨k + 1, by omega, by go_num, by rw [← HE.out]; exact ho2, hb.grown hg2 hbs (OwnsB.from hown)⟩
          case measure => simp [intOf]; omega
    · have HE : Hid ((⟨(quoTo s k ++ [34]).toArray⟩ : ByteArray) = quoS s) := quoTo_end hlt
      go_wp2_with (at_builtin; refine wpList_push _ rfl (.tmp 31) (.tmp 32) rfl w.heap.size _ _ _ 34 rfl rfl hown rfl (by omega) hbs ?_; intro v2 w2 ho2 hg2; have hback := ho2.text)
      go_ret
      exact ⟨ret_str HE.out, hb.grown hg2 hbs (OwnsB.from hown)⟩
end Go.Proofs.YtnachhmhjodbhaaGreatDoor
namespace Go.Proofs.YtnachhmhjodbhaaGreatDoor
open Go.RowKit
set_option linter.unusedVariables false

/-- A name put behind others, unless it is there. -/
def addN (acc : List ByteArray) (x : ByteArray) : List ByteArray := if (acc.any fun n => decide (n = x)) = true then acc else acc ++ [x]
def badN (x : ByteArray) : Bool := decide (x = ⟨#[42]⟩) || !tokB x
def nmsL (l : List ByteArray) : List ByteArray := l.foldl (fun acc t => addN acc (lowS t)) []
def okN (l : List ByteArray) : Bool := l.all fun t => !badN (lowS t)
def srtN (l : List ByteArray) : List ByteArray := (srtL (l.map fun x => x.data.toList)).map txt
def selOne (asks : List Fl) (s x : ByteArray) : ByteArray := s ++ x ++ ⟨#[61]⟩ ++ quoS (getF asks x).1 ++ ⟨#[59]⟩
def selS (asks : List Fl) (ns : List ByteArray) : ByteArray := ns.foldl (selOne asks) ⟨#[]⟩
/-- What is selected by, of some fields. -/
def selV (vary : ByteArray) (asks : List Fl) : ByteArray × Bool := if okN (itemsA vary) = true then (selS asks (srtN (nmsL (itemsA vary))), true) else (⟨#[]⟩, false)
def selA (vary : ByteArray) (asks : List Fl) : ByteArray × Bool := if fldsOk asks = true then selV vary asks else (⟨#[]⟩, false)
theorem nmsL_next {l : List ByteArray} {k : Nat} (h : k < l.length) : nmsL (l.take (k + 1)) = addN (nmsL (l.take k)) (lowS l[k]) := by
  unfold nmsL
  rw [← List.take_append_getElem h, List.foldl_append]
  rfl
theorem addN_length (acc : List ByteArray) (x : ByteArray) : (addN acc x).length ≤ acc.length + 1 := by
  unfold addN
  split
  · omega
  · simp
theorem nmsL_length (l : List ByteArray) : (nmsL l).length ≤ l.length := by
  have key : ∀ (l acc : List ByteArray), (l.foldl (fun acc t => addN acc (lowS t)) acc).length ≤ acc.length + l.length := by
    intro l
    induction l with
    | nil => intro acc; simp
    | cons t l ih =>
      intro acc
      have h := ih (addN acc (lowS t))
      have h2 := addN_length acc (lowS t)
      rw [List.foldl_cons, List.length_cons]
      omega
  have := key l []
  simpa [nmsL] using this
theorem okN_no {l : List ByteArray} {k : Nat} (h : k < l.length) (hb : badN (lowS l[k]) = true) : okN l = false := by
  unfold okN
  rw [List.all_eq_false]
  exact ⟨l[k], List.getElem_mem h, by simp [hb]⟩
theorem selS_next {asks : List Fl} {ns : List ByteArray} {k : Nat} (h : k < ns.length) : selS asks (ns.take (k + 1)) = selOne asks (selS asks (ns.take k)) ns[k] := by
  unfold selS
  rw [← List.take_append_getElem h, List.foldl_append]
  rfl
theorem txt_back (x : ByteArray) : txt x.data.toList = x := by
  cases x
  rfl
theorem map_back (l : List ByteArray) : (l.map fun x => x.data.toList).map txt = l := by
  rw [List.map_map]
  have : (txt ∘ fun x : ByteArray => x.data.toList) = id := by funext x; exact txt_back x
  rw [this, List.map_id]
theorem mem_addN {acc : List ByteArray} {x y : ByteArray} (h : y ∈ addN acc x) : y ∈ acc ∨ y = x := by
  unfold addN at h
  split at h
  · exact .inl h
  · rcases List.mem_append.1 h with h | h
    · exact .inl h
    · exact .inr (List.mem_singleton.1 h)
theorem mem_nmsL {l : List ByteArray} {y : ByteArray} (h : y ∈ nmsL l) : ∃ t ∈ l, y = lowS t := by
  have key : ∀ (l acc : List ByteArray), y ∈ l.foldl (fun acc t => addN acc (lowS t)) acc → y ∈ acc ∨ ∃ t ∈ l, y = lowS t := by
    intro l
    induction l with
    | nil => intro acc h; exact .inl h
    | cons t l ih =>
      intro acc h
      rcases ih _ h with h1 | ⟨t', h1, h2⟩
      · rcases mem_addN h1 with h1 | h1
        · exact .inl h1
        · exact .inr ⟨t, List.mem_cons_self, h1⟩
      · exact .inr ⟨t', List.mem_cons_of_mem _ h1, h2⟩
  rcases key l [] h with h | h
  · cases h
  · exact h
theorem mem_srtN {l : List ByteArray} {y : ByteArray} (h : y ∈ srtN l) : y ∈ l := by
  obtain ⟨p, hp, rfl⟩ := List.mem_map.1 h
  obtain ⟨x, hx, rfl⟩ := List.mem_map.1 ((srtL_perm _).mem_iff.1 hp)
  rw [txt_back]
  exact hx
theorem srtN_length (l : List ByteArray) : (srtN l).length = l.length := by
  unfold srtN
  rw [List.length_map, (srtL_perm _).length_eq, List.length_map]
theorem quoS_most (s : ByteArray) : (quoS s).size ≤ 2 * s.size + 2 := by
  have h := quoL_length s.data.toList
  have e : (quoS s).size = (quoL s.data.toList).length + 2 := by
    show (34 :: quoL s.data.toList ++ [34]).toArray.size = _
    simp
  have e2 : s.data.toList.length = s.size := by
    show s.data.toList.length = s.data.size
    simp
  omega
end Go.Proofs.YtnachhmhjodbhaaGreatDoor
namespace Go.Proofs.YtnachhmhjodbhaaGreatDoor
open Go.RowKit
set_option linter.unusedVariables false

theorem getF_bound (n : ByteArray) : ∀ (l : List Fl) (p : ByteArray × Bool), (l.foldl (gStep n) p).1.size ≤ p.1.size + szL l + 2 * l.length := by
  intro l
  induction l with
  | nil => intro p; simp
  | cons f l ih =>
    intro p
    have h := ih (gStep n p f)
    have hs : (gStep n p f).1.size ≤ p.1.size + 2 + f.2.size := by
      unfold gStep
      split
      · simp only
        rw [ByteArray.size_append]
        split
        · rw [ByteArray.size_append]; exact Nat.le_refl _
        · omega
      · omega
    have hz : szL (f :: l) = f.1.size + f.2.size + szL l := by simp [szL, szF]
    rw [List.foldl_cons, List.length_cons, hz]
    omega
theorem getF_max {l : List Fl} (n : ByteArray) (h1 : szL l ≤ 1048576) (h2 : l.length ≤ 1048576) : (getF l n).1.size ≤ 3145728 := by
  have := getF_bound n l (⟨#[]⟩, false)
  have h0 : (⟨#[]⟩ : ByteArray).size = 0 := rfl
  unfold getF
  simp only [h0] at this
  omega
/-- What a value that is got is no longer than. -/
def getZ (l : List Fl) : Nat := (l.map fun f => f.2.size + 2).sum
theorem getF_z (l : List Fl) (n : ByteArray) : (getF l n).1.size ≤ getZ l := by
  have key : ∀ (l : List Fl) (p : ByteArray × Bool), (l.foldl (gStep n) p).1.size ≤ p.1.size + getZ l := by
    intro l
    induction l with
    | nil => intro p; simp
    | cons f l ih =>
      intro p
      have h := ih (gStep n p f)
      have hs : (gStep n p f).1.size ≤ p.1.size + 2 + f.2.size := by
        unfold gStep
        split
        · simp only
          rw [ByteArray.size_append]
          split
          · rw [ByteArray.size_append]; exact Nat.le_refl _
          · omega
        · omega
      have hz : getZ (f :: l) = f.2.size + 2 + getZ l := by simp [getZ]
      rw [List.foldl_cons, hz]
      omega
  have := key l (⟨#[]⟩, false)
  have h0 : (⟨#[]⟩ : ByteArray).size = 0 := rfl
  unfold getF
  simp only [h0] at this
  omega
theorem getZ_most (m : Nat) : ∀ (l : List Fl), (∀ f ∈ l, f.2.size ≤ m) → getZ l ≤ (m + 2) * l.length := by
  intro l
  induction l with
  | nil => intro _; simp [getZ]
  | cons f l ih =>
    intro h
    have h1 := h f (by simp)
    have h2 := ih fun g hg => h g (by simp [hg])
    have hz : getZ (f :: l) = f.2.size + 2 + getZ l := by simp [getZ]
    rw [hz, List.length_cons, Nat.mul_add]
    omega
end Go.Proofs.YtnachhmhjodbhaaGreatDoor
namespace Go.Proofs.YtnachhmhjodbhaaGreatDoor
open Go.RowKit
set_option linter.unusedVariables false

theorem ltL_of {a b : List UInt8} (h : a ≤ b) (hne : a ≠ b) : a < b := by
  by_cases hl : a < b
  · exact hl
  · exact absurd (leL_anti a b h hl) hne
theorem strict_one : ∀ (a b : List (List UInt8)), (a.Pairwise fun x y => x < y) → (b.Pairwise fun x y => x < y) → (∀ x, x ∈ a ↔ x ∈ b) → a = b := by
  intro a
  induction a with
  | nil =>
    intro b _ _ h
    cases b with
    | nil => rfl
    | cons y b => exact absurd ((h y).2 (by simp)) (by simp)
  | cons x a ih =>
    intro b ha hb h
    cases b with
    | nil => exact absurd ((h x).1 (by simp)) (by simp)
    | cons y b =>
      obtain ⟨ha1, ha2⟩ := List.pairwise_cons.1 ha
      obtain ⟨hb1, hb2⟩ := List.pairwise_cons.1 hb
      have e : x = y := by
        rcases List.mem_cons.1 ((h x).1 (by simp)) with e | e
        · exact e
        · rcases List.mem_cons.1 ((h y).2 (by simp)) with e' | e'
          · exact e'.symm
          · exact absurd (List.lt_trans (ha1 y e') (hb1 x e)) (List.lt_irrefl x)
      subst e
      rw [ih b ha2 hb2 fun z => ?_]
      constructor
      · intro hz
        rcases List.mem_cons.1 ((h z).1 (List.mem_cons_of_mem _ hz)) with e | e
        · subst e; exact absurd (ha1 z hz) (List.lt_irrefl z)
        · exact e
      · intro hz
        rcases List.mem_cons.1 ((h z).2 (List.mem_cons_of_mem _ hz)) with e | e
        · subst e; exact absurd (hb1 z hz) (List.lt_irrefl z)
        · exact e
theorem strict_of {l : List (List UInt8)} (h : SrtL l) (hn : l.Pairwise fun x y => x ≠ y) : l.Pairwise fun x y => x < y := by
  rw [List.pairwise_iff_getElem]
  intro i j hi hj hij
  exact ltL_of (List.pairwise_iff_getElem.1 h i j hi hj hij) (List.pairwise_iff_getElem.1 hn i j hi hj hij)

/-- What compacting leaves of a row in order. -/
theorem compact_strict (zs : List (List UInt8)) (hs : SrtL zs) : ((Lib.compact zs).Pairwise fun x y => x < y) ∧ ∀ x, x ∈ Lib.compact zs ↔ x ∈ zs := by
  have hle : ∀ i j : Nat, i < j → j < zs.length → zs.toArray[i]! ≤ zs.toArray[j]! := by
    intro i j hij hj
    have := (List.pairwise_iff_getElem.1 hs) i j (by omega) hj hij
    simpa [getElem!_pos, hj, show i < zs.length by omega] using this
  have hrf : ∀ i : Nat, zs.toArray[i]! ≤ zs.toArray[i]! := fun i => List.le_refl _
  have key : ∀ m, m ≤ zs.length → ((Lib.compactUpTo zs.toArray m).Pairwise fun x y => x < y) ∧ ∀ x, x ∈ Lib.compactUpTo zs.toArray m ↔ ∃ j, j < m ∧ zs.toArray[j]! = x := by
    intro m
    induction m with
    | zero => intro _; refine ⟨by simp [Lib.compactUpTo], fun x => by simp [Lib.compactUpTo]⟩
    | succ m ih =>
      intro hm
      obtain ⟨h1, h2⟩ := ih (by omega)
      rw [Lib.compactUpTo_succ]
      cases hk : Lib.keeps zs.toArray m with
      | true =>
        have hk' : m = 0 ∨ zs.toArray[m]! ≠ zs.toArray[m - 1]! := of_decide_eq_true hk
        refine ⟨?_, fun x => ?_⟩
        · rw [if_pos rfl]
          refine List.pairwise_append.2 ⟨h1, by simp, fun a ha b hb => ?_⟩
          obtain rfl := List.mem_singleton.1 hb
          obtain ⟨j, hj, rfl⟩ := (h2 a).1 ha
          refine ltL_of (hle j m hj (by omega)) fun e => ?_
          rcases hk' with h0 | h0
          · omega
          · refine h0 (leL_anti _ _ ?_ (hle (m - 1) m (by omega) (by omega)))
            rw [← e]
            by_cases hjm : j = m - 1
            · rw [hjm]; exact hrf _
            · exact hle j (m - 1) (by omega) (by omega)
        · rw [if_pos rfl, List.mem_append, h2, List.mem_singleton]
          constructor
          · rintro (⟨j, hj, e⟩ | e)
            · exact ⟨j, by omega, e⟩
            · exact ⟨m, by omega, e.symm⟩
          · rintro ⟨j, hj, e⟩
            by_cases hjm : j = m
            · subst hjm; exact .inr e.symm
            · exact .inl ⟨j, by omega, e⟩
      | false =>
        have hk' : ¬ (m = 0 ∨ zs.toArray[m]! ≠ zs.toArray[m - 1]!) := of_decide_eq_false hk
        have e0 : zs.toArray[m]! = zs.toArray[m - 1]! := by
          by_cases e : zs.toArray[m]! = zs.toArray[m - 1]!
          · exact e
          · exact absurd (.inr e) hk'
        have hm0 : m ≠ 0 := fun e => hk' (.inl e)
        rw [if_neg (by decide), List.append_nil]
        refine ⟨h1, fun x => ?_⟩
        rw [h2]
        constructor
        · rintro ⟨j, hj, e⟩
          exact ⟨j, by omega, e⟩
        · rintro ⟨j, hj, e⟩
          by_cases hjm : j = m
          · subst hjm; exact ⟨j - 1, by omega, by rw [← e0]; exact e⟩
          · exact ⟨j, by omega, e⟩
  obtain ⟨h1, h2⟩ := key zs.length (Nat.le_refl _)
  refine ⟨h1, fun x => ?_⟩
  show x ∈ Lib.compactUpTo zs.toArray zs.length ↔ _
  rw [h2]
  constructor
  · rintro ⟨j, hj, e⟩
    have : zs.toArray[j]! = zs[j] := by simp [getElem!_pos, hj]
    rw [← e, this]
    exact List.getElem_mem hj
  · intro hx
    obtain ⟨j, hj, e⟩ := List.getElem_of_mem hx
    exact ⟨j, hj, by simp [getElem!_pos, hj, e]⟩

/-- The names, in lower letters, as lists of bytes. -/
def lowL (items : List ByteArray) : List (List UInt8) := items.map fun t => (lowS t).data.toList
/-- The names that are gone through. -/
def nmI (items : List ByteArray) : List (List UInt8) := Lib.compact ((lowL items).mergeSort fun x y => decide (x ≤ y))
theorem addN_nodup {acc : List ByteArray} {x : ByteArray} (h : acc.Pairwise fun a b => a ≠ b) : (addN acc x).Pairwise fun a b => a ≠ b := by
  unfold addN
  split
  · exact h
  · rename_i hn
    refine List.pairwise_append.2 ⟨h, by simp, fun a ha b hb e => ?_⟩
    obtain rfl := List.mem_singleton.1 hb
    subst e
    exact hn (List.any_eq_true.2 ⟨a, ha, by simp⟩)
theorem nmsL_nodup (l : List ByteArray) : (nmsL l).Pairwise fun a b => a ≠ b := by
  have key : ∀ (l acc : List ByteArray), (acc.Pairwise fun a b => a ≠ b) → (l.foldl (fun acc t => addN acc (lowS t)) acc).Pairwise fun a b => a ≠ b := by
    intro l
    induction l with
    | nil => intro acc h; exact h
    | cons t l ih => intro acc h; exact ih _ (addN_nodup h)
  exact key l [] List.Pairwise.nil
theorem addN_mem (acc : List ByteArray) (x : ByteArray) : x ∈ addN acc x := by
  unfold addN
  split
  · rename_i h
    obtain ⟨n, hn, e⟩ := List.any_eq_true.1 h
    rw [← of_decide_eq_true e]; exact hn
  · simp
theorem addN_old {acc : List ByteArray} {x y : ByteArray} (h : y ∈ acc) : y ∈ addN acc x := by
  unfold addN
  split
  · exact h
  · exact List.mem_append.2 (.inl h)
theorem nmsL_mem {l : List ByteArray} {t : ByteArray} (h : t ∈ l) : lowS t ∈ nmsL l := by
  have keep : ∀ (l acc : List ByteArray) (y : ByteArray), y ∈ acc → y ∈ l.foldl (fun acc t => addN acc (lowS t)) acc := by
    intro l
    induction l with
    | nil => intro acc y h; exact h
    | cons t l ih => intro acc y h; exact ih _ _ (addN_old h)
  have key : ∀ (l acc : List ByteArray), t ∈ l → lowS t ∈ l.foldl (fun acc t => addN acc (lowS t)) acc := by
    intro l
    induction l with
    | nil => intro acc h; cases h
    | cons u l ih =>
      intro acc h
      rcases List.mem_cons.1 h with e | e
      · subst e; exact keep l _ _ (addN_mem _ _)
      · exact ih _ e
  exact key l [] h
theorem dataL_inj {a b : ByteArray} (h : a.data.toList = b.data.toList) : a = b := by
  have : a.data = b.data := Array.ext' h
  cases a; cases b; exact congrArg _ this
theorem merge_is (l : List (List UInt8)) : SrtL (l.mergeSort fun x y => decide (x ≤ y)) := by
  have h1 := List.pairwise_mergeSort leL_trans leL_total l
  unfold SrtL
  simpa using h1
/-- Put in order and made one, or made one and put in order: it is one. -/
theorem nmI_is (items : List ByteArray) : (nmI items).map txt = srtN (nmsL items) := by
  unfold srtN
  congr 1
  obtain ⟨h1, h2⟩ := compact_strict _ (merge_is (lowL items))
  refine strict_one _ _ h1 (strict_of (srtL_srt _) ?_) fun x => ?_
  · refine ((srtL_perm _).pairwise_iff (fun h e => h e.symm)).2 ?_
    rw [List.pairwise_map, List.pairwise_iff_getElem]
    intro i j hi hj hij e
    exact (List.pairwise_iff_getElem.1 (nmsL_nodup items) i j hi hj hij) (dataL_inj e)
  · show x ∈ Lib.compact _ ↔ _
    rw [h2, (List.mergeSort_perm _ _).mem_iff, (srtL_perm _).mem_iff]
    constructor
    · intro hx
      obtain ⟨t, ht, rfl⟩ := List.mem_map.1 hx
      exact List.mem_map.2 ⟨_, nmsL_mem ht, rfl⟩
    · intro hx
      obtain ⟨y, hy, rfl⟩ := List.mem_map.1 hx
      obtain ⟨t, ht, rfl⟩ := mem_nmsL hy
      exact List.mem_map.2 ⟨t, ht, rfl⟩
theorem nmI_length (items : List ByteArray) : (nmI items).length ≤ items.length := by
  have := congrArg List.length (nmI_is items)
  rw [List.length_map, srtN_length] at this
  rw [this]
  exact nmsL_length items

/-- What the program says of one name. -/
def selQ (asks : List Fl) (s x : ByteArray) : ByteArray := s ++ x ++ ⟨#[61]⟩ ++ quoA (getF asks x).1 ++ ⟨#[59]⟩
def selW (asks : List Fl) (ns : List ByteArray) : ByteArray := ns.foldl (selQ asks) ⟨#[]⟩
theorem selW_snoc (asks : List Fl) (ns : List ByteArray) (x : ByteArray) : selW asks (ns ++ [x]) = selQ asks (selW asks ns) x := by
  unfold selW
  rw [List.foldl_append]
  rfl
def selI (vary : ByteArray) (asks : List Fl) : ByteArray × Bool := if fldsOk asks = true then (if okN (itemsA vary) = true then (selW asks (srtN (nmsL (itemsA vary))), true) else (⟨#[]⟩, false)) else (⟨#[]⟩, false)
theorem selI_no {vary : ByteArray} {asks : List Fl} (h : fldsOk asks = false) : selI vary asks = (⟨#[]⟩, false) := by unfold selI; rw [if_neg (by simp [h])]
theorem okN_names {items : List ByteArray} : okN items = true ↔ ∀ x ∈ srtN (nmsL items), badN x = false := by
  unfold okN
  rw [List.all_eq_true]
  constructor
  · intro h x hx
    obtain ⟨t, ht, rfl⟩ := mem_nmsL (mem_srtN hx)
    simpa using h t ht
  · intro h t ht
    have : lowS t ∈ srtN (nmsL items) := by
      unfold srtN
      refine List.mem_map.2 ⟨(lowS t).data.toList, (srtL_perm _).mem_iff.2 (List.mem_map.2 ⟨_, nmsL_mem ht, rfl⟩), txt_back _⟩
    simpa using h _ this
theorem selI_all {vary : ByteArray} {asks : List Fl} (h : fldsOk asks = true) (hg : ∀ x ∈ srtN (nmsL (itemsA vary)), badN x = false) : selI vary asks = (selW asks (srtN (nmsL (itemsA vary))), true) := by
  unfold selI; rw [if_pos h, if_pos (okN_names.2 hg)]
theorem selI_bad {vary : ByteArray} {asks : List Fl} {x : ByteArray} (hx : x ∈ srtN (nmsL (itemsA vary))) (hb : badN x = true) : selI vary asks = (⟨#[]⟩, false) := by
  unfold selI
  have : ¬ okN (itemsA vary) = true := fun h => by rw [okN_names.1 h x hx] at hb; cases hb
  rw [if_neg this]
  split <;> rfl
theorem quoA_most (s : ByteArray) : (quoA s).size ≤ 802 := by
  unfold quoA
  split
  · rename_i h
    have h1 := quoS_most s
    have h2 := vis_size h
    omega
  · show 0 ≤ 802; omega
theorem tok_most {x : ByteArray} (h : tokB x = true) : x.size ≤ 64 := by
  unfold tokB at h
  rw [Bool.and_eq_true] at h
  exact (of_decide_eq_true h.1).2
theorem bad_tok {x : ByteArray} (h : badN x = false) : tokB x = true := by
  unfold badN at h
  rw [Bool.or_eq_false_iff] at h
  simpa using h.2
theorem selW_size (asks : List Fl) : ∀ (ns : List ByteArray), (∀ x ∈ ns, badN x = false) → (selW asks ns).size ≤ 900 * ns.length := by
  have key : ∀ (ns : List ByteArray) (s : ByteArray), (∀ x ∈ ns, badN x = false) → (ns.foldl (selQ asks) s).size ≤ s.size + 900 * ns.length := by
    intro ns
    induction ns with
    | nil => intro s _; simp
    | cons x ns ih =>
      intro s h
      have h1 := ih (selQ asks s x) fun y hy => h y (List.mem_cons_of_mem _ hy)
      have h2 : (selQ asks s x).size ≤ s.size + 870 := by
        have := quoA_most (getF asks x).1
        have := tok_most (bad_tok (h x (by simp)))
        have e1 : (⟨#[61]⟩ : ByteArray).size = 1 := rfl
        have e2 : (⟨#[59]⟩ : ByteArray).size = 1 := rfl
        unfold selQ
        rw [ByteArray.size_append, ByteArray.size_append, ByteArray.size_append, ByteArray.size_append, e1, e2]
        omega
      rw [List.foldl_cons, List.length_cons]
      omega
  intro ns h
  have := key ns ⟨#[]⟩ h
  have h0 : (⟨#[]⟩ : ByteArray).size = 0 := rfl
  unfold selW
  omega

/-- All that is got of right fields is visible, where it is not too long. -/
theorem getF_vis {asks : List Fl} (h : fldsOk asks = true) (n : ByteArray) (hz : getZ asks ≤ 400) : visB (getF asks n).1 = true := by
  have hall : ∀ f ∈ asks, allB visN f.2.data.toList = true := by
    intro f hf
    unfold fldsOk at h
    rw [Bool.and_eq_true] at h
    have h2 := List.all_eq_true.1 h.2 f hf
    unfold fldOk at h2
    rw [Bool.and_eq_true, Bool.and_eq_true] at h2
    have h3 := h2.2.1
    unfold visB at h3
    rw [Bool.and_eq_true] at h3
    exact h3.2
  have app : ∀ a b : ByteArray, allB visN a.data.toList = true → allB visN b.data.toList = true → allB visN (a ++ b).data.toList = true := by
    intro a b ha hb
    have e : (a ++ b).data.toList = a.data.toList ++ b.data.toList := by simp
    rw [e]
    unfold allB at *
    rw [List.all_append, ha, hb]
    rfl
  have key : ∀ (l : List Fl) (p : ByteArray × Bool), (∀ f ∈ l, allB visN f.2.data.toList = true) → allB visN p.1.data.toList = true → allB visN (l.foldl (gStep n) p).1.data.toList = true := by
    intro l
    induction l with
    | nil => intro p _ hp; exact hp
    | cons f l ih =>
      intro p hl hp
      refine ih _ (fun g hg => hl g (List.mem_cons_of_mem _ hg)) ?_
      have hf := hl f (by simp)
      unfold gStep
      split
      · show allB visN (_ ++ f.2).data.toList = true
        refine app _ _ ?_ hf
        split
        · exact app _ _ hp (by decide)
        · exact hp
      · exact hp
  unfold visB
  rw [Bool.and_eq_true]
  exact ⟨decide_eq_true (Nat.le_trans (getF_z asks n) hz), key asks _ hall rfl⟩
/-- The program's answer is the specification's, where no value is too long. -/
theorem selI_is {vary : ByteArray} {asks : List Fl} (hz : getZ asks ≤ 400) : selI vary asks = selA vary asks := by
  unfold selI selA
  split
  · rename_i h
    unfold selV
    split
    · congr 1
      unfold selW selS
      have : selQ asks = selOne asks := by
        funext s x
        unfold selQ selOne
        rw [← quoA_yes (getF_vis h x hz)]
      rw [this]
    · rfl
  · rfl
end Go.Proofs.YtnachhmhjodbhaaGreatDoor

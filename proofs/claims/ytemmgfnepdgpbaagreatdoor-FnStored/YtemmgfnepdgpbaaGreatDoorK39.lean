/-
  A region that draws its order, by what holds whichever of its operations have been carried out.
  Drawn fields: whatever the code, they are some fields, none of them large.
  Drawn fields: the region of a field's literal, operation by operation.
  Drawn lists of fields.
-/
import Derived.Test.YtemmgfnepdgpbaaGreatDoorK17
import Derived.Test.YtemmgfnepdgpbaaGreatDoorK33
import Derived.Test.YtemmgfnepdgpbaaGreatDoorK18
namespace Go.Proofs.YtemmgfnepdgpbaaGreatDoor
open Go.RowKit Go.Sort

def upd {α : Type} (f : Nat → α) (i : Nat) (x : α) : Nat → α := fun j => if j = i then x else f j
def lst (listed : Array Bool) : Nat → Bool := fun j => listed.getD j false
theorem lst_set {listed : Array Bool} {i : Nat} (hi : i < listed.size) : lst (listed.setIfInBounds i true) = upd (lst listed) i true := by
  funext j
  unfold lst upd
  by_cases h : j = i
  · subst h
    simp [hi]
  · rw [if_neg h]
    simp [Array.getElem?_setIfInBounds_ne (fun e => h e.symm)]
theorem lst_all (n : Nat) : lst (Array.replicate n false) = fun _ => false := by
  funext j
  unfold lst
  by_cases h : j < n <;> simp [h]
def left (listed : Array Bool) : Nat := listed.toList.count false
theorem left_set {listed : Array Bool} {i : Nat} (hi : listed.getD i true = false) : left (listed.setIfInBounds i true) + 1 = left listed := by
  have hlt : i < listed.size := by
    rcases Nat.lt_or_ge i listed.size with h | h
    · exact h
    · simp [Array.getElem?_eq_none h] at hi
  have he : listed.toList[i]'(by simpa using hlt) = false := by
    simp [hlt] at hi
    simpa using hi
  unfold left
  rw [Array.toList_setIfInBounds, List.count_set (by simpa using hlt)]
  have hp : 0 < listed.toList.count false := List.count_pos_iff.2 (by rw [← he]; exact List.getElem_mem _)
  rw [he]
  show listed.toList.count false - 1 + 0 + 1 = listed.toList.count false
  omega

theorem wpAny_inv {P : Program} {md : Region.Mode} {ops : Array Oper} {Q : Exit → Act → World → Prop} (Inv : (Nat → Bool) → Act → World → Prop)
    (hstep : ∀ (L : Nat → Bool) (a : Act) (w : World) (i : Nat) (o : Oper) (K : Act → World → Prop), ops[i]? = some o → L i = false → (∀ e ∈ o.after, Region.binds md e = true → L e.on = true) → Inv L a w → (∀ a' w', Inv (upd L i true) a' w' → K a' w') →
      if Region.wanted o (yielded ops a.tmps) = true then Oper.wp P o a w K Q else K (a.put o.dst undef) w)
    (hback : ∀ (i : Nat) (o : Oper), ops[i]? = some o → ∀ e ∈ o.after, Region.binds md e = true → e.on < i)
    (hdone : ∀ (L : Nat → Bool) (a : Act) (w : World), (∀ i, i < ops.size → L i = true) → Inv L a w → Q .normal a w) :
    ∀ (fuel : Nat) (listed : Array Bool) (a : Act) (w : World), listed.size = ops.size → left listed ≤ fuel → Inv (lst listed) a w → wpAny P md ops Q fuel listed a w := by
  have hall : ∀ (listed : Array Bool), listed.size = ops.size → Region.ready md ops listed = [] → ∀ i, i < ops.size → lst listed i = true := by
    intro listed hs hr i
    induction i using Nat.strongRecOn with
    | _ i ih =>
      intro hi
      cases h : lst listed i with
      | true => rfl
      | false =>
        have hm : i ∈ Region.ready md ops listed := mem_ready.2 ⟨by
            unfold lst at h
            have hlt : i < listed.size := by omega
            simp [hlt] at h ⊢
            exact h, ops[i], by simp [hi], fun e he hb => ih e.on (hback i ops[i] (by simp [hi]) e he hb) (by have := hback i ops[i] (by simp [hi]) e he hb; omega)⟩
        rw [hr] at hm
        cases hm
  intro fuel
  induction fuel with
  | zero =>
    intro listed a w hs hl hI
    have hr : Region.ready md ops listed = [] := by
      cases h : Region.ready md ops listed with
      | nil => rfl
      | cons i r =>
        have hm : i ∈ Region.ready md ops listed := by rw [h]; simp
        have := left_set (mem_ready.1 hm).1
        omega
    exact ⟨hr, hdone _ _ _ (hall listed hs hr) hI⟩
  | succ fuel ih =>
    intro listed a w hs hl hI
    refine ⟨fun hr => hdone _ _ _ (hall listed hs hr) hI, fun i hi => ?_⟩
    obtain ⟨h1, o, ho, hdep⟩ := mem_ready.1 hi
    have hlt : i < ops.size := (Array.getElem?_eq_some_iff.1 ho).1
    have hc := left_set h1
    have := hstep (lst listed) a w i o (wpAny P md ops Q fuel (listed.setIfInBounds i true)) ho (by unfold lst; simp [show i < listed.size by omega] at h1 ⊢; exact h1) hdep hI (fun a' w' h' => ih _ a' w' (by simpa using hs) (by omega) (by rw [lst_set (by omega)]; exact h'))
    unfold wpOp
    rw [ho]
    show if Region.wanted o (yielded ops a.tmps) = true then _ else _
    split
    · rename_i hw
      rw [if_pos hw] at this
      exact Or.inl this
    · rename_i hw
      rw [if_neg hw] at this
      exact this

theorem region_inv {P : Program} {ops : Array Oper} {Q : Exit → Act → World → Prop} {id : Nat} {a : Act} {w : World} (hm : P.follows .mixedOrders = true) (Inv : (Nat → Bool) → Act → World → Prop)
    (h0 : Inv (fun _ => false) a w.drew)
    (hstep : ∀ (L : Nat → Bool) (a : Act) (w : World) (i : Nat) (o : Oper) (K : Act → World → Prop), ops[i]? = some o → L i = false → (∀ e ∈ o.after, Region.binds .any e = true → L e.on = true) → Inv L a w → (∀ a' w', Inv (upd L i true) a' w' → K a' w') →
      if Region.wanted o (yielded ops a.tmps) = true then Oper.wp P o a w K Q else K (a.put o.dst undef) w)
    (hback : ∀ (i : Nat) (o : Oper), ops[i]? = some o → ∀ e ∈ o.after, Region.binds .any e = true → e.on < i)
    (hdone : ∀ (L : Nat → Bool) (a : Act) (w : World), (∀ i, i < ops.size → L i = true) → Inv L a w → Q .normal a w) : (Code.region id ops true).wp P Q a w := by
  refine wp_region_any hm (wpAny_inv Inv hstep hback hdone ops.size _ a _ (by simp) (by unfold left; simp) ?_)
  rw [lst_all]
  exact h0
end Go.Proofs.YtemmgfnepdgpbaaGreatDoor
namespace Go.Proofs.YtemmgfnepdgpbaaGreatDoor
open Go.RowKit Go.Sort

/-- The table of names, and that of values. -/
def tabA : Array Value := #[.string ⟨#[97]⟩, .string ⟨#[65, 99, 99, 101, 112, 116]⟩, .string ⟨#[97, 99, 99, 101, 112, 116]⟩, .string ⟨#[120, 45, 98]⟩, .string ⟨#[67, 111, 110, 110, 101, 99, 116, 105, 111, 110]⟩, .string ⟨#[116, 101]⟩, .string ⟨#[118, 97, 114, 121]⟩]
def tabB : Array Value := #[.string ⟨#[49]⟩, .string ⟨#[97, 44, 32, 98]⟩, .string ⟨#[]⟩, .string ⟨#[120, 45, 98]⟩, .string ⟨#[113, 61, 34, 97, 44, 98, 34]⟩, .string ⟨#[97]⟩]
theorem tabA_at (x : Nat) (h : x < 7) : ∃ s : ByteArray, tabA[x]? = some (.string s) ∧ s.size ≤ 10 := by
  rcases (show x = 0 ∨ x = 1 ∨ x = 2 ∨ x = 3 ∨ x = 4 ∨ x = 5 ∨ x = 6 by omega) with rfl | rfl | rfl | rfl | rfl | rfl | rfl <;> exact ⟨_, rfl, by decide⟩
theorem tabB_at (x : Nat) (h : x < 6) : ∃ s : ByteArray, tabB[x]? = some (.string s) ∧ s.size ≤ 7 := by
  rcases (show x = 0 ∨ x = 1 ∨ x = 2 ∨ x = 3 ∨ x = 4 ∨ x = 5 by omega) with rfl | rfl | rfl | rfl | rfl | rfl <;> exact ⟨_, rfl, by decide⟩
/-- A table in a block of its own. -/
def TabAt (b : Nat) (w : World) (g : Nat) (tab : Array Value) : Prop := w.heap[g]? = some (.cells tab 9 (0, 0)) ∧ g ≠ b
/-- Two texts in a block of their own. -/
def TwoAt (b n : Nat) (w : World) (g : Nat) (p q : ByteArray) : Prop := w.heap[g]? = some (.cells #[.string p, .string q] 83 (0, 0)) ∧ g ≠ b ∧ n ≤ g
/-- What stays. -/
def Keep (b : Nat) (w w' : World) : Prop := ∀ g o, g ≠ b → w.heap[g]? = some o → w'.heap[g]? = some o
theorem Keep.refl (b : Nat) (w : World) : Keep b w w := fun _ _ _ h => h
theorem Keep.alloc (b : Nat) (w : World) (o : Obj) : Keep b w (w.alloc o) := fun g x _ h => by rw [Below.heap_alloc w o g (Array.getElem?_eq_some_iff.1 h).1]; exact h
theorem Beside.keep {b : Nat} {w w' : World} (h : Beside b w w') : Keep b w w' := fun g x hg hx => by rw [h.2.2.2.2 g (Array.getElem?_eq_some_iff.1 hx).1 hg]; exact hx
theorem TabAt.keep {b : Nat} {w w' : World} {g : Nat} {tab : Array Value} (h : TabAt b w g tab) (k : Keep b w w') : TabAt b w' g tab := ⟨k g _ h.2 h.1, h.2⟩
theorem TwoAt.keep {b n : Nat} {w w' : World} {g : Nat} {p q : ByteArray} (h : TwoAt b n w g p q) (k : Keep b w w') : TwoAt b n w' g p q := ⟨k g _ h.2.1 h.1, h.2⟩

def frF (b n : Nat) (t : Nat → Value) : Act := { tmps := #[.pointer (some ⟨b, 0, none⟩), undef, .pointer (some ⟨n, 0, none⟩), t 3, t 4, t 5, t 6, t 7, t 8, t 9, t 10, t 11, t 12, t 13, t 14, undef, undef, undef, undef, undef, undef, undef, undef, undef, undef, undef, undef, undef, undef, undef, undef, undef, undef, undef, undef, undef], defers := [] }
def hasTab (b : Nat) (w : World) (v : Value) (n : Nat) (tab : Array Value) : Prop := ∃ g, v = .slice (some ⟨g, 0, none⟩) n n ∧ TabAt b w g tab
def hasNum (v : Value) (n : Nat) : Prop := ∃ x : Nat, v = .int .i64 x ∧ x < n
def hasPt (b : Nat) (w : World) (v : Value) (n : Nat) (tab : Array Value) : Prop := ∃ g x, v = .pointer (some ⟨g, x, none⟩) ∧ x < n ∧ TabAt b w g tab
def hasTxt (v : Value) (n : Nat) : Prop := ∃ s : ByteArray, v = .string s ∧ s.size ≤ n
def hasTwo (b n : Nat) (w : World) (v : Value) : Prop := ∃ g p q, v = .pointer (some ⟨g, 0, none⟩) ∧ TwoAt b n w g p q
theorem hasTab.keep {b : Nat} {w w' : World} {v : Value} {n : Nat} {tab : Array Value} (h : hasTab b w v n tab) (k : Keep b w w') : hasTab b w' v n tab := by obtain ⟨g, h1, h2⟩ := h; exact ⟨g, h1, h2.keep k⟩
theorem hasPt.keep {b : Nat} {w w' : World} {v : Value} {n : Nat} {tab : Array Value} (h : hasPt b w v n tab) (k : Keep b w w') : hasPt b w' v n tab := by obtain ⟨g, x, h1, h2, h3⟩ := h; exact ⟨g, x, h1, h2, h3.keep k⟩
theorem hasTwo.keep {b n : Nat} {w w' : World} {v : Value} (h : hasTwo b n w v) (k : Keep b w w') : hasTwo b n w' v := by obtain ⟨g, p, q, h1, h2⟩ := h; exact ⟨g, p, q, h1, h2.keep k⟩
/-- What holds, whichever of the operations have been carried out. -/
structure CondF (b n : Nat) (L : Nat → Bool) (t : Nat → Value) (w : World) : Prop where
  a0 : L 0 = true → L 3 = false → hasTab b w (t 4) 7 tabA
  a1 : L 1 = true → L 2 = false → t 5 = .pointer (some ⟨b, 0, none⟩)
  a2 : L 2 = true → L 3 = false → hasNum (t 6) 7
  a3 : L 3 = true → L 4 = false → hasPt b w (t 7) 7 tabA
  a4 : L 4 = true → L 10 = false → hasTxt (t 8) 10
  b0 : L 5 = true → L 8 = false → hasTab b w (t 9) 6 tabB
  b1 : L 6 = true → L 7 = false → t 10 = .pointer (some ⟨b, 0, none⟩)
  b2 : L 7 = true → L 8 = false → hasNum (t 11) 6
  b3 : L 8 = true → L 9 = false → hasPt b w (t 12) 6 tabB
  b4 : L 9 = true → L 10 = false → hasTxt (t 13) 7
  d0 : L 10 = true → L 12 = false → ∃ p q : ByteArray, t 14 = .agg #[.string p, .string q] ∧ p.size ≤ 10 ∧ q.size ≤ 7
  d1 : L 11 = true → L 12 = false → hasTwo b (n + 1) w (t 3)
  e0 : L 12 = true → L 11 = true
  d2 : L 12 = true → ∃ g p q, t 3 = .pointer (some ⟨g, 0, none⟩) ∧ TwoAt b (n + 1) w g p q ∧ p.size ≤ 10 ∧ q.size ≤ 7
def InvF (b n : Nat) (sa : Option Addr) (sl sc : Nat) (w0 : World) (L : Nat → Bool) (a : Act) (w : World) : Prop :=
  ∃ t, a = frF b n t ∧ Cur w b sa sl sc ∧ Beside b w0 w ∧ n + 1 ≤ w.heap.size ∧ CondF b n L t w
theorem no_of {P : Prop} (h : true = false) : P := by cases h
def tabC : Array Value := #[.string ⟨#[]⟩, .string ⟨#[97, 32, 98]⟩, .string ⟨#[97, 58]⟩, .string ⟨#[0]⟩]
def tabD : Array Value := #[.string ⟨#[32, 97]⟩, .string ⟨#[97, 10]⟩, .string ⟨#[97, 127]⟩, .string ⟨#[97, 9]⟩]
theorem tabC_at (x : Nat) (h : x < 4) : ∃ s : ByteArray, tabC[x]? = some (.string s) ∧ s.size ≤ 7 := by
  rcases (show x = 0 ∨ x = 1 ∨ x = 2 ∨ x = 3 by omega) with rfl | rfl | rfl | rfl <;> exact ⟨_, rfl, by decide⟩
theorem tabD_at (x : Nat) (h : x < 4) : ∃ s : ByteArray, tabD[x]? = some (.string s) ∧ s.size ≤ 7 := by
  rcases (show x = 0 ∨ x = 1 ∨ x = 2 ∨ x = 3 by omega) with rfl | rfl | rfl | rfl <;> exact ⟨_, rfl, by decide⟩
theorem Beside.at {b g : Nat} {w w' : World} {o : Obj} (h : Beside b w w') (hg : g ≠ b) (ho : w.heap[g]? = some o) : w'.heap[g]? = some o := by
  rw [h.2.2.2.2 g (Array.getElem?_eq_some_iff.1 ho).1 hg]; exact ho
end Go.Proofs.YtemmgfnepdgpbaaGreatDoor
namespace Go.Proofs.YtemmgfnepdgpbaaGreatDoor
open Go.RowKit Go.Sort

theorem CondF.next {b n : Nat} {L : Nat → Bool} {t : Nat → Value} {w w' : World} (C : CondF b n L t w) (k : Keep b w w') : CondF b n L t w' :=
  ⟨fun h1 h2 => (C.a0 h1 h2).keep k, C.a1, C.a2, fun h1 h2 => (C.a3 h1 h2).keep k, C.a4, fun h1 h2 => (C.b0 h1 h2).keep k, C.b1, C.b2, fun h1 h2 => (C.b3 h1 h2).keep k, C.b4, C.d0, fun h1 h2 => (C.d1 h1 h2).keep k, C.e0, fun h1 => by
    obtain ⟨g, p, q, e1, e2, e3⟩ := C.d2 h1
    exact ⟨g, p, q, e1, e2.keep k, e3⟩⟩
/-- The table of names is laid. -/
theorem CondF.s0 {b n : Nat} {L : Nat → Bool} {t : Nat → Value} {w : World} (C : CondF b n L t w) {v : Value} (hv : hasTab b w v 7 tabA) : CondF b n (upd L 0 true) (upd t 4 v) w :=
  ⟨fun _ _ => hv, C.a1, C.a2, C.a3, C.a4, C.b0, C.b1, C.b2, C.b3, C.b4, C.d0, C.d1, C.e0, C.d2⟩
theorem CondF.s1 {b n : Nat} {L : Nat → Bool} {t : Nat → Value} {w : World} (C : CondF b n L t w) : CondF b n (upd L 1 true) (upd t 5 (.pointer (some ⟨b, 0, none⟩))) w :=
  ⟨C.a0, fun _ _ => rfl, C.a2, C.a3, C.a4, C.b0, C.b1, C.b2, C.b3, C.b4, C.d0, C.d1, C.e0, C.d2⟩
theorem CondF.s2 {b n : Nat} {L : Nat → Bool} {t : Nat → Value} {w : World} (C : CondF b n L t w) {v : Value} (hv : hasNum v 7) : CondF b n (upd L 2 true) (upd t 6 v) w :=
  ⟨C.a0, fun _ h => no_of h, fun _ _ => hv, C.a3, C.a4, C.b0, C.b1, C.b2, C.b3, C.b4, C.d0, C.d1, C.e0, C.d2⟩
theorem CondF.s3 {b n : Nat} {L : Nat → Bool} {t : Nat → Value} {w : World} (C : CondF b n L t w) {v : Value} (hv : hasPt b w v 7 tabA) : CondF b n (upd L 3 true) (upd t 7 v) w :=
  ⟨fun _ h => no_of h, C.a1, fun _ h => no_of h, fun _ _ => hv, C.a4, C.b0, C.b1, C.b2, C.b3, C.b4, C.d0, C.d1, C.e0, C.d2⟩
theorem CondF.s4 {b n : Nat} {L : Nat → Bool} {t : Nat → Value} {w : World} (C : CondF b n L t w) {v : Value} (hv : hasTxt v 10) : CondF b n (upd L 4 true) (upd t 8 v) w :=
  ⟨C.a0, C.a1, C.a2, fun _ h => no_of h, fun _ _ => hv, C.b0, C.b1, C.b2, C.b3, C.b4, C.d0, C.d1, C.e0, C.d2⟩
theorem CondF.s5 {b n : Nat} {L : Nat → Bool} {t : Nat → Value} {w : World} (C : CondF b n L t w) {v : Value} (hv : hasTab b w v 6 tabB) : CondF b n (upd L 5 true) (upd t 9 v) w :=
  ⟨C.a0, C.a1, C.a2, C.a3, C.a4, fun _ _ => hv, C.b1, C.b2, C.b3, C.b4, C.d0, C.d1, C.e0, C.d2⟩
theorem CondF.s6 {b n : Nat} {L : Nat → Bool} {t : Nat → Value} {w : World} (C : CondF b n L t w) : CondF b n (upd L 6 true) (upd t 10 (.pointer (some ⟨b, 0, none⟩))) w :=
  ⟨C.a0, C.a1, C.a2, C.a3, C.a4, C.b0, fun _ _ => rfl, C.b2, C.b3, C.b4, C.d0, C.d1, C.e0, C.d2⟩
theorem CondF.s7 {b n : Nat} {L : Nat → Bool} {t : Nat → Value} {w : World} (C : CondF b n L t w) {v : Value} (hv : hasNum v 6) : CondF b n (upd L 7 true) (upd t 11 v) w :=
  ⟨C.a0, C.a1, C.a2, C.a3, C.a4, C.b0, fun _ h => no_of h, fun _ _ => hv, C.b3, C.b4, C.d0, C.d1, C.e0, C.d2⟩
theorem CondF.s8 {b n : Nat} {L : Nat → Bool} {t : Nat → Value} {w : World} (C : CondF b n L t w) {v : Value} (hv : hasPt b w v 6 tabB) : CondF b n (upd L 8 true) (upd t 12 v) w :=
  ⟨C.a0, C.a1, C.a2, C.a3, C.a4, fun _ h => no_of h, C.b1, fun _ h => no_of h, fun _ _ => hv, C.b4, C.d0, C.d1, C.e0, C.d2⟩
theorem CondF.s9 {b n : Nat} {L : Nat → Bool} {t : Nat → Value} {w : World} (C : CondF b n L t w) {v : Value} (hv : hasTxt v 7) : CondF b n (upd L 9 true) (upd t 13 v) w :=
  ⟨C.a0, C.a1, C.a2, C.a3, C.a4, C.b0, C.b1, C.b2, fun _ h => no_of h, fun _ _ => hv, C.d0, C.d1, C.e0, C.d2⟩
theorem CondF.s10 {b n : Nat} {L : Nat → Bool} {t : Nat → Value} {w : World} (C : CondF b n L t w) {p q : ByteArray} (hp : p.size ≤ 10) (hq : q.size ≤ 7) : CondF b n (upd L 10 true) (upd t 14 (.agg #[.string p, .string q])) w :=
  ⟨C.a0, C.a1, C.a2, C.a3, fun _ h => no_of h, C.b0, C.b1, C.b2, C.b3, fun _ h => no_of h, fun _ _ => ⟨p, q, rfl, hp, hq⟩, C.d1, C.e0, C.d2⟩
theorem CondF.s11 {b n : Nat} {L : Nat → Bool} {t : Nat → Value} {w : World} (C : CondF b n L t w) {v : Value} (hv : hasTwo b (n + 1) w v) (h12 : L 12 = false) : CondF b n (upd L 11 true) (upd t 3 v) w :=
  ⟨C.a0, C.a1, C.a2, C.a3, C.a4, C.b0, C.b1, C.b2, C.b3, C.b4, C.d0, fun _ _ => hv, fun _ => rfl, fun h => by rw [show upd L 11 true 12 = L 12 from rfl, h12] at h; cases h⟩
theorem CondF.s12 {b n : Nat} {L : Nat → Bool} {t : Nat → Value} {w' : World} (hL : L 2 = true ∧ L 3 = true ∧ L 4 = true ∧ L 7 = true ∧ L 8 = true ∧ L 9 = true ∧ L 10 = true ∧ L 11 = true) {g : Nat} {p q : ByteArray} (h3 : t 3 = .pointer (some ⟨g, 0, none⟩)) (hv : TwoAt b (n + 1) w' g p q) (hp : p.size ≤ 10) (hq : q.size ≤ 7) : CondF b n (upd L 12 true) t w' := by
  obtain ⟨l2, l3, l4, l7, l8, l9, l10, l11⟩ := hL
  exact ⟨fun _ h => no_of (l3.symm.trans h), fun _ h => no_of (l2.symm.trans h), fun _ h => no_of (l3.symm.trans h), fun _ h => no_of (l4.symm.trans h), fun _ h => no_of (l10.symm.trans h), fun _ h => no_of (l8.symm.trans h), fun _ h => no_of (l7.symm.trans h), fun _ h => no_of (l8.symm.trans h), fun _ h => no_of (l9.symm.trans h), fun _ h => no_of (l10.symm.trans h), fun _ h => no_of h, fun _ h => no_of h, fun _ => l11, fun _ => ⟨g, p, q, h3, hv, hp, hq⟩⟩

theorem back_of {o : Oper} {i : Nat} (h : (o.after.all fun e => decide (e.on < i)) = true) : ∀ e ∈ o.after, e.on < i := fun e he => of_decide_eq_true (Array.all_eq_true_iff_forall_mem.1 h e he)

set_option maxRecDepth 100000 in
set_option maxHeartbeats 4000000 in
theorem l4DrawField (b : Nat) (sa : Option Addr) (sl sc : Nat) (w : World) (hc : Cur w b sa sl sc) :
    Calls Tryz.prog 136 #[.pointer (some ⟨b, 0, none⟩)] w fun e w' => (∃ f : Fl, e = .returned (.agg #[.string f.1, .string f.2]) ∧ f.1.size ≤ 10 ∧ f.2.size ≤ 7) ∧ Cur w' b sa sl sc ∧ Beside b w w' := by
  have hbz : b < w.heap.size := hc.2.2.1
  have hent : ∀ args w, (callFunc 75 args).run Tryz.prog w = .ok (.enter 75 args) w := Go.Proofs.enters_of Tryz.func75 (by kernel_rfl) rfl
  have hb0 := (Below.refl w.heap.size w).alloc (Nat.le_refl _) (.cells #[.string ⟨#[]⟩, .string ⟨#[]⟩] 83)
  go_enter Tryz.func136, Tryz.ntmps136
  go_wp2
  refine region_inv mixed (InvF b w.heap.size sa sl sc (w.alloc (.cells #[.string ⟨#[]⟩, .string ⟨#[]⟩] 83))) ?h0 ?step ?back ?done
  case h0 =>
    refine ⟨fun _ => undef, rfl, ?_, ?_, ?_, ?_⟩
    · exact hc.kept (show Below w.heap.size w (w.alloc (.cells #[.string ⟨#[]⟩, .string ⟨#[]⟩] 83)).drew from ⟨hb0.os, hb0.tape, hb0.output, hb0.size, hb0.block⟩) hbz
    · exact ⟨rfl, rfl, rfl, Nat.le_refl _, fun _ _ _ => rfl⟩
    · show w.heap.size + 1 ≤ (w.alloc (.cells #[.string ⟨#[]⟩, .string ⟨#[]⟩] 83)).heap.size
      simp
    · exact ⟨fun h => no_of h.symm, fun h => no_of h.symm, fun h => no_of h.symm, fun h => no_of h.symm, fun h => no_of h.symm, fun h => no_of h.symm, fun h => no_of h.symm, fun h => no_of h.symm, fun h => no_of h.symm, fun h => no_of h.symm, fun h => no_of h.symm, fun h => no_of h.symm, fun h => no_of h.symm, fun h => no_of h.symm⟩
  case step =>
    intro L a x i o K ho hi hdep hI hK
    obtain ⟨t, rfl, hcur, hbes, hsz, C⟩ := hI
    have hxz : b < x.heap.size := hcur.2.2.1
    have hlt : i < 13 := (Array.getElem?_eq_some_iff.1 ho).1
    rcases (show i = 0 ∨ i = 1 ∨ i = 2 ∨ i = 3 ∨ i = 4 ∨ i = 5 ∨ i = 6 ∨ i = 7 ∨ i = 8 ∨ i = 9 ∨ i = 10 ∨ i = 11 ∨ i = 12 by omega) with rfl | rfl | rfl | rfl | rfl | rfl | rfl | rfl | rfl | rfl | rfl | rfl | rfl
    all_goals obtain rfl := Option.some.inj ho
    · -- the table of names
      have hba := (Below.refl x.heap.size x).alloc (Nat.le_refl _) (.cells tabA 9)
      have HK : Hid (K (frF b w.heap.size (upd t 4 (.slice (some ⟨x.heap.size, 0, none⟩) 7 7))) (x.alloc (.cells tabA 9))) := hK _ _ ⟨_, rfl, hcur.kept hba hxz, hbes.below hba, by simp; omega, (C.next (Keep.alloc b x _)).s0 ⟨x.heap.size, rfl, heap_alloc_new x _, by omega⟩⟩
      unfold frF
      go_simp
      exact HK.out
    · -- the cursor
      have HK : Hid (K (frF b w.heap.size (upd t 5 (.pointer (some ⟨b, 0, none⟩)))) x) := hK _ _ ⟨_, rfl, hcur, hbes, hsz, C.s1⟩
      unfold frF
      go_simp
      exact HK.out
    · -- a number below seven
      have l1 := hdep { on := 1, ground := Ground.data } (by simp) rfl
      have e5 := C.a1 l1 hi
      refine step_call2 rfl 75 (.tmp 5) (.const (.int .i64 7)) _ rfl (.pointer (some ⟨b, 0, none⟩)) (.int .i64 7) e5 rfl (hent _) (fun u y => ∃ z : Int, u = .int .i64 z ∧ 0 ≤ z ∧ z < 7 ∧ Cur y b sa sl sc ∧ Beside b x y) ((l1Below b sa sl sc 7 (by decide) (by decide) x hcur).mono fun e y ⟨z, he, h⟩ => ⟨_, he, z, rfl, h⟩) ?_
      rintro u y ⟨z, rfl, hz0, hz1, hc1, hb1⟩
      exact hK _ _ ⟨upd t 6 (.int .i64 z), rfl, hc1, hbes.trans hb1, Nat.le_trans hsz hb1.2.2.2.1, (C.next hb1.keep).s2 ⟨z.toNat, by rw [Int.toNat_of_nonneg hz0], by omega⟩⟩
    · -- its place
      have l0 := hdep { on := 0, ground := Ground.data } (by simp) rfl
      have l2 := hdep { on := 2, ground := Ground.data } (by simp) rfl
      obtain ⟨g, e4, hT⟩ := C.a0 l0 hi
      obtain ⟨z, e6, hz⟩ := C.a2 l2 hi
      have hzI : (z : Int) < 7 := by omega
      have HK : Hid (K (frF b w.heap.size (upd t 7 (.pointer (some ⟨g, z, none⟩)))) x) := hK _ _ ⟨_, rfl, hcur, hbes, hsz, C.s3 ⟨g, z, rfl, hz, hT⟩⟩
      unfold frF
      go_simp
      have h2 := HK.out
      unfold frF upd at h2
      simpa [e4, e6] using h2
    · -- what lies there
      have l3 := hdep { on := 3, ground := Ground.data } (by simp) rfl
      obtain ⟨g, z, e7, hz, hT⟩ := C.a3 l3 hi
      obtain ⟨s, hs, hss⟩ := tabA_at z hz
      have c0 : x.cell? ⟨g, z, none⟩ = some (.string s) := by rw [cell_of_row x g z _ _ _ hT.1]; exact hs
      have HK : Hid (K (frF b w.heap.size (upd t 8 (.string s))) x) := hK _ _ ⟨_, rfl, hcur, hbes, hsz, C.s4 ⟨s, rfl, hss⟩⟩
      unfold frF
      go_simp
      have h2 := HK.out
      unfold frF upd at h2
      simpa [e7] using h2
    · -- the table of values
      have hba := (Below.refl x.heap.size x).alloc (Nat.le_refl _) (.cells tabB 9)
      have HK : Hid (K (frF b w.heap.size (upd t 9 (.slice (some ⟨x.heap.size, 0, none⟩) 6 6))) (x.alloc (.cells tabB 9))) := hK _ _ ⟨_, rfl, hcur.kept hba hxz, hbes.below hba, by simp; omega, (C.next (Keep.alloc b x _)).s5 ⟨x.heap.size, rfl, heap_alloc_new x _, by omega⟩⟩
      unfold frF
      go_simp
      exact HK.out
    · -- the cursor
      have HK : Hid (K (frF b w.heap.size (upd t 10 (.pointer (some ⟨b, 0, none⟩)))) x) := hK _ _ ⟨_, rfl, hcur, hbes, hsz, C.s6⟩
      unfold frF
      go_simp
      exact HK.out
    · -- a number below six
      have l1 := hdep { on := 6, ground := Ground.data } (by simp) rfl
      have e5 := C.b1 l1 hi
      refine step_call2 rfl 75 (.tmp 10) (.const (.int .i64 6)) _ rfl (.pointer (some ⟨b, 0, none⟩)) (.int .i64 6) e5 rfl (hent _) (fun u y => ∃ z : Int, u = .int .i64 z ∧ 0 ≤ z ∧ z < 6 ∧ Cur y b sa sl sc ∧ Beside b x y) ((l1Below b sa sl sc 6 (by decide) (by decide) x hcur).mono fun e y ⟨z, he, h⟩ => ⟨_, he, z, rfl, h⟩) ?_
      rintro u y ⟨z, rfl, hz0, hz1, hc1, hb1⟩
      exact hK _ _ ⟨upd t 11 (.int .i64 z), rfl, hc1, hbes.trans hb1, Nat.le_trans hsz hb1.2.2.2.1, (C.next hb1.keep).s7 ⟨z.toNat, by rw [Int.toNat_of_nonneg hz0], by omega⟩⟩
    · -- its place
      have l0 := hdep { on := 5, ground := Ground.data } (by simp) rfl
      have l2 := hdep { on := 7, ground := Ground.data } (by simp) rfl
      obtain ⟨g, e4, hT⟩ := C.b0 l0 hi
      obtain ⟨z, e6, hz⟩ := C.b2 l2 hi
      have hzI : (z : Int) < 6 := by omega
      have HK : Hid (K (frF b w.heap.size (upd t 12 (.pointer (some ⟨g, z, none⟩)))) x) := hK _ _ ⟨_, rfl, hcur, hbes, hsz, C.s8 ⟨g, z, rfl, hz, hT⟩⟩
      unfold frF
      go_simp
      have h2 := HK.out
      unfold frF upd at h2
      simpa [e4, e6] using h2
    · -- what lies there
      have l3 := hdep { on := 8, ground := Ground.data } (by simp) rfl
      obtain ⟨g, z, e7, hz, hT⟩ := C.b3 l3 hi
      obtain ⟨s, hs, hss⟩ := tabB_at z hz
      have c0 : x.cell? ⟨g, z, none⟩ = some (.string s) := by rw [cell_of_row x g z _ _ _ hT.1]; exact hs
      have HK : Hid (K (frF b w.heap.size (upd t 13 (.string s))) x) := hK _ _ ⟨_, rfl, hcur, hbes, hsz, C.s9 ⟨s, rfl, hss⟩⟩
      unfold frF
      go_simp
      have h2 := HK.out
      unfold frF upd at h2
      simpa [e7] using h2
    · -- both
      have l4 := hdep { on := 4, ground := Ground.data } (by simp) rfl
      have l9 := hdep { on := 9, ground := Ground.data } (by simp) rfl
      obtain ⟨p, e8, hp⟩ := C.a4 l4 hi
      obtain ⟨q, e13, hq⟩ := C.b4 l9 hi
      have HK : Hid (K (frF b w.heap.size (upd t 14 (.agg #[.string p, .string q]))) x) := hK _ _ ⟨_, rfl, hcur, hbes, hsz, C.s10 hp hq⟩
      unfold frF
      go_simp
      have h2 := HK.out
      unfold frF upd at h2
      simpa [e8, e13] using h2
    · -- the variable
      have h12 : L 12 = false := by
        cases h : L 12 with
        | false => rfl
        | true => rw [C.e0 h] at hi; cases hi
      have hba := (Below.refl x.heap.size x).alloc (Nat.le_refl _) (.cells #[.string ⟨#[]⟩, .string ⟨#[]⟩] 83)
      have HK : Hid (K (frF b w.heap.size (upd t 3 (.pointer (some ⟨x.heap.size, 0, none⟩)))) (x.alloc (.cells #[.string ⟨#[]⟩, .string ⟨#[]⟩] 83))) := hK _ _ ⟨_, rfl, hcur.kept hba hxz, hbes.below hba, by simp; omega, (C.next (Keep.alloc b x _)).s11 ⟨x.heap.size, _, _, rfl, heap_alloc_new x _, by omega, hsz⟩ h12⟩
      unfold frF
      go_simp
      exact HK.out
    · -- stored
      have ph : ∀ j, j < 12 → L j = true := fun j hj => by
        rcases (show j = 0 ∨ j = 1 ∨ j = 2 ∨ j = 3 ∨ j = 4 ∨ j = 5 ∨ j = 6 ∨ j = 7 ∨ j = 8 ∨ j = 9 ∨ j = 10 ∨ j = 11 by omega) with rfl | rfl | rfl | rfl | rfl | rfl | rfl | rfl | rfl | rfl | rfl | rfl <;> exact hdep { on := _, ground := Ground.phase } (by simp) rfl
      obtain ⟨p, q, e14, hp, hq⟩ := C.d0 (ph 10 (by decide)) hi
      obtain ⟨g, p0, q0, e3, hT⟩ := C.d1 (ph 11 (by decide)) hi
      obtain ⟨c0, c1, f0, f1⟩ := box_cells hT.1
      have hbs := ((Below.refl (w.heap.size + 1) x).setCell (p := ⟨g, 0, none⟩) hT.2.2 (.string p)).setCell (p := ⟨g, 1, none⟩) hT.2.2 (.string q)
      have hT2 : TwoAt b (w.heap.size + 1) ((x.setCell ⟨g, 0, none⟩ (.string p)).setCell ⟨g, 1, none⟩ (.string q)) g p q := ⟨heap_setCell_same _ g 1 _ _ _ (heap_setCell_same x g 0 _ _ _ hT.1), hT.2⟩
      have HK : Hid (K (frF b w.heap.size t) ((x.setCell ⟨g, 0, none⟩ (.string p)).setCell ⟨g, 1, none⟩ (.string q))) := hK _ _ ⟨_, rfl, hcur.kept hbs (by omega), hbes.grow hbs (by simp), Nat.le_trans hsz hbs.size, CondF.s12 ⟨ph 2 (by decide), ph 3 (by decide), ph 4 (by decide), ph 7 (by decide), ph 8 (by decide), ph 9 (by decide), ph 10 (by decide), ph 11 (by decide)⟩ e3 hT2 hp hq⟩
      unfold frF
      go_simp
      have h2 := HK.out
      unfold frF at h2
      simpa [e3, e14] using h2
  case back =>
    intro i o ho
    have hlt : i < 13 := (Array.getElem?_eq_some_iff.1 ho).1
    rcases (show i = 0 ∨ i = 1 ∨ i = 2 ∨ i = 3 ∨ i = 4 ∨ i = 5 ∨ i = 6 ∨ i = 7 ∨ i = 8 ∨ i = 9 ∨ i = 10 ∨ i = 11 ∨ i = 12 by omega) with rfl | rfl | rfl | rfl | rfl | rfl | rfl | rfl | rfl | rfl | rfl | rfl | rfl
    all_goals
      obtain rfl := Option.some.inj ho
      intro e he _
      refine back_of ?_ e he
      kernel_rfl
  case done =>
    intro L a x hall hI
    obtain ⟨t, rfl, hcur, hbes, hsz, C⟩ := hI
    obtain ⟨g, p, q, e3, hT, hp, hq⟩ := C.d2 (hall 12 (by decide))
    clear C hall
    have r0 : x.heap[w.heap.size]? = some (.cells #[.string ⟨#[]⟩, .string ⟨#[]⟩] 83) := hbes.at (by omega) (heap_alloc_new w _)
    have hbW : Beside b w x := ((Beside.refl b w).below hb0).trans hbes
    have hgb : g ≠ b := hT.2.1
    have hgn : w.heap.size < g := hT.2.2
    have t0 := hT.1
    have hxz : g < x.heap.size := (Array.getElem?_eq_some_iff.1 t0).1
    clear hbes hsz hT hc
    unfold frF
    rw [e3]
    go_wp2_with fail
    refine (l1Once b sa sl sc 24 (by decide) (by decide) x hcur).mono ?_
    rintro e y1 ⟨tt, rfl, hc1, hb1⟩
    have r1 := hb1.at (by omega) r0
    have t1 := hb1.at hgb t0
    have hbW1 := hbW.trans hb1
    cases tt with
    | false =>
      obtain ⟨c0, c1, f0, f1⟩ := box_cells t1
      obtain ⟨d0, d1, g0, g1⟩ := box_cells r1
      clear r0 t0 r1 t1 hb1
      go_wp2
      refine bodyPost_ret (v := .agg #[.string p, .string q]) (by simp [results, Tryz.results136, go_sem, d0, d1]) rfl ?_
      have bs := ((Below.refl w.heap.size y1).setCell (p := ⟨w.heap.size, 0, none⟩) (Nat.le_refl _) (.string p)).setCell (p := ⟨w.heap.size, 1, none⟩) (Nat.le_refl _) (.string q)
      exact ⟨⟨(p, q), rfl, hp, hq⟩, hc1.kept bs hbz, hbW1.grow bs (Nat.le_refl _)⟩
    | true =>
      go_wp2_with fail
      refine (l1Below b sa sl sc 2 (by decide) (by decide) y1 hc1).mono ?_
      rintro e y2 ⟨z, rfl, hz0, hz1, hc2, hb2⟩
      have r2 := hb2.at (by omega) r1
      have t2 := hb2.at hgb t1
      have hbW2 := hbW1.trans hb2
      have hy2 : b < y2.heap.size := hc2.2.2.1
      clear r0 t0 r1 t1 hb1 hb2
      rcases (show z = 0 ∨ z = 1 by omega) with rfl | rfl
      · have hba := (Below.refl y2.heap.size y2).alloc (Nat.le_refl _) (.cells tabC 9)
        have hca := hc2.kept hba hy2
        have ta := heap_alloc_new y2 (.cells tabC 9)
        have r2a := below_block r2 hba
        have t2a := below_block t2 hba
        have hbWa := hbW2.below hba
        go_wp2_with fail
        refine (l1Below b sa sl sc 4 (by decide) (by decide) (y2.alloc (.cells tabC 9)) hca).mono ?_
        rintro e y3 ⟨z, rfl, hw0, hw1, hc3, hb3⟩
        obtain ⟨k, rfl⟩ : ∃ k : Nat, z = k := ⟨z.toNat, by omega⟩
        have r3 := hb3.at (by omega) r2a
        have t3 := hb3.at hgb t2a
        have ta3 := hb3.at (by omega) ta
        obtain ⟨s, hs, hss⟩ := tabC_at k (by omega)
        have cs : y3.cell? ⟨y2.heap.size, k, none⟩ = some (.string s) := by rw [cell_of_row y3 _ k _ _ _ ta3]; exact hs
        obtain ⟨c0, c1, f0, f1⟩ := box_cells t3
        have t4 : (y3.setCell ⟨g, 0, none⟩ (.string s)).heap[g]? = some (.cells #[.string s, .string q] 83) := heap_setCell_same y3 g 0 _ _ _ t3
        have r4 : (y3.setCell ⟨g, 0, none⟩ (.string s)).heap[w.heap.size]? = some (.cells #[.string ⟨#[]⟩, .string ⟨#[]⟩] 83) := by rw [heap_setCell_other y3 ⟨g, 0, none⟩ w.heap.size _ (by show w.heap.size ≠ g; omega)]; exact r3
        obtain ⟨c2, c3, _, _⟩ := box_cells t4
        obtain ⟨d0, d1, g0, g1⟩ := box_cells r4
        have bs := (((Below.refl w.heap.size y3).setCell (p := ⟨g, 0, none⟩) (Nat.le_of_lt hgn) (.string s)).setCell (p := ⟨w.heap.size, 0, none⟩) (Nat.le_refl _) (.string s)).setCell (p := ⟨w.heap.size, 1, none⟩) (Nat.le_refl _) (.string q)
        have hbW3 := hbWa.trans hb3
        clear ta ta3 r2 t2 r2a t2a r3 t3 t4 r4 hb3 hca hba hs
        go_wp2
        refine bodyPost_ret (v := .agg #[.string s, .string q]) (by simp [results, Tryz.results136, go_sem, d0, d1]) rfl ?_
        exact ⟨⟨(s, q), rfl, Nat.le_trans hss (by decide), hq⟩, hc3.kept bs hbz, hbW3.grow bs (Nat.le_refl _)⟩
      · have hba := (Below.refl y2.heap.size y2).alloc (Nat.le_refl _) (.cells tabD 9)
        have hca := hc2.kept hba hy2
        have ta := heap_alloc_new y2 (.cells tabD 9)
        have r2a := below_block r2 hba
        have t2a := below_block t2 hba
        have hbWa := hbW2.below hba
        go_wp2_with fail
        refine (l1Below b sa sl sc 4 (by decide) (by decide) (y2.alloc (.cells tabD 9)) hca).mono ?_
        rintro e y3 ⟨z, rfl, hw0, hw1, hc3, hb3⟩
        obtain ⟨k, rfl⟩ : ∃ k : Nat, z = k := ⟨z.toNat, by omega⟩
        have r3 := hb3.at (by omega) r2a
        have t3 := hb3.at hgb t2a
        have ta3 := hb3.at (by omega) ta
        obtain ⟨s, hs, hss⟩ := tabD_at k (by omega)
        have cs : y3.cell? ⟨y2.heap.size, k, none⟩ = some (.string s) := by rw [cell_of_row y3 _ k _ _ _ ta3]; exact hs
        obtain ⟨c0, c1, f0, f1⟩ := box_cells t3
        have t4 : (y3.setCell ⟨g, 1, none⟩ (.string s)).heap[g]? = some (.cells #[.string p, .string s] 83) := heap_setCell_same y3 g 1 _ _ _ t3
        have r4 : (y3.setCell ⟨g, 1, none⟩ (.string s)).heap[w.heap.size]? = some (.cells #[.string ⟨#[]⟩, .string ⟨#[]⟩] 83) := by rw [heap_setCell_other y3 ⟨g, 1, none⟩ w.heap.size _ (by show w.heap.size ≠ g; omega)]; exact r3
        obtain ⟨c2, c3, _, _⟩ := box_cells t4
        obtain ⟨d0, d1, g0, g1⟩ := box_cells r4
        have bs := (((Below.refl w.heap.size y3).setCell (p := ⟨g, 1, none⟩) (Nat.le_of_lt hgn) (.string s)).setCell (p := ⟨w.heap.size, 0, none⟩) (Nat.le_refl _) (.string p)).setCell (p := ⟨w.heap.size, 1, none⟩) (Nat.le_refl _) (.string s)
        have hbW3 := hbWa.trans hb3
        clear ta ta3 r2 t2 r2a t2a r3 t3 t4 r4 hb3 hca hba hs
        go_wp2
        refine bodyPost_ret (v := .agg #[.string p, .string s]) (by simp [results, Tryz.results136, go_sem, d0, d1]) rfl ?_
        exact ⟨⟨(p, s), rfl, hp, hss⟩, hc3.kept bs hbz, hbW3.grow bs (Nat.le_refl _)⟩
end Go.Proofs.YtemmgfnepdgpbaaGreatDoor
namespace Go.Proofs.YtemmgfnepdgpbaaGreatDoor
open Go.RowKit Go.Sort

/-- A list of few fields, each of them small. -/
def SmallF (l : List Fl) : Prop := l.length ≤ 31 ∧ ∀ f ∈ l, f.1.size ≤ 10 ∧ f.2.size ≤ 7
theorem SmallF.sz {l : List Fl} (h : SmallF l) : szL l ≤ 527 := by
  have : ∀ (l : List Fl), (∀ f ∈ l, f.1.size ≤ 10 ∧ f.2.size ≤ 7) → szL l ≤ 17 * l.length := by
    intro l
    induction l with
    | nil => intro _; exact Nat.zero_le _
    | cons f l ih =>
      intro h
      have h1 := h f (by simp)
      have h2 := ih fun g hg => h g (by simp [hg])
      have e : szL (f :: l) = szF f + szL l := by simp [szL]
      rw [e, List.length_cons]
      unfold szF
      omega
  have h2 := this l h.2
  have := h.1
  omega
theorem OwnsF.beside {w w' : World} {B b : Nat} {v : Value} {l : List Fl} (h : OwnsF w B v l) (hb : Beside b w w') (hB : b < B) : OwnsF w' B v l := by
  refine ⟨h.1, ?_⟩
  rcases h.2 with h0 | ⟨g, cap, cur, hv, hbg, hg, rest⟩
  · exact .inl h0
  · exact .inr ⟨g, cap, cur, hv, hbg, hb.at (by omega) hg, rest⟩
def lenV : Value → Nat
  | .slice _ n _ => n
  | _ => 0
theorem Beside.grown {b : Nat} {w x y : World} {r : Option Nat} (h : Beside b w x) (hg : x.grownBy y r) (hr : ∀ k, r = some k → w.heap.size ≤ k) : Beside b w y :=
  ⟨hg.os.trans h.1, hg.tape.trans h.2.1, hg.output.trans h.2.2.1, Nat.le_trans h.2.2.2.1 hg.size, fun k hk hne => (hg.block k (Nat.lt_of_lt_of_le hk h.2.2.2.1) (fun e => by have := hr k e.symm; omega)).trans (h.2.2.2.2 k hk hne)⟩
theorem grown_low {x y : World} {r : Option Nat} {B : Nat} (hg : x.grownBy y r) (hr : ∀ k, r = some k → B ≤ k) (hB : B ≤ x.heap.size) : Below B x y :=
  ⟨hg.os, hg.tape, hg.output, hg.size, fun k hk => hg.block k (by omega) (fun e => by have := hr k e.symm; omega)⟩

set_option maxHeartbeats 2000000 in
theorem l4Draw (b : Nat) (sa : Option Addr) (sl sc : Nat) (w : World) (hc : Cur w b sa sl sc) :
    Calls Tryz.prog 109 #[.pointer (some ⟨b, 0, none⟩)] w fun e w' => (∃ u l, e = .returned u ∧ OwnsF w' w.heap.size u l ∧ SmallF l) ∧ Cur w' b sa sl sc ∧ Beside b w w' := by
  have hbz : b < w.heap.size := hc.2.2.1
  have hb0 := (Below.refl w.heap.size w).alloc (Nat.le_refl _) (.cells #[] 83)
  go_enter Tryz.func109, Tryz.ntmps109
  go_wp2_with fail
  refine (l1Below b sa sl sc 6 (by decide) (by decide) (w.alloc (.cells #[] 83)) (hc.kept hb0 hbz)).mono ?_
  rintro e w1 ⟨z, rfl, hz0, hz1, hc1, hb1⟩
  obtain ⟨m, rfl⟩ : ∃ m : Nat, z = m := ⟨z.toNat, by omega⟩
  have ho1 := (OwnsF.born w).beside hb1 hbz
  have hbs1 := ((Beside.refl b w).below hb0).trans hb1
  go_wp2_with fail
  go_loopw [3, 4] (fun u i wr => ∃ (k : Nat) (l : List Fl), i = .int .i64 k ∧ l.length + k ≤ 5 ∧ (∀ f ∈ l, f.1.size ≤ 10 ∧ f.2.size ≤ 7) ∧ OwnsF wr w.heap.size u l ∧ Cur wr b sa sl sc ∧ Beside b w wr) (fun _ i _ => (intOf i).toNat)
  case atStart => exact ⟨m, [], rfl, by simp; omega, (by intro f hf; cases hf), ho1, hc1, hbs1⟩
  case round =>
    clear ho1 hc1 hbs1 hb1
    obtain ⟨k, l, rfl, hlk, hsm, hown, hcur, hbes⟩ := hrel
    by_cases hk : 0 < k
    · go_wp2_with (first
        | (go_at_call 136; refine (l4DrawField b sa sl sc _ hcur).mono ?_; rintro e w2 ⟨⟨f, rfl, hf1, hf2⟩, hc2, hb2⟩; have ho2 := hown.beside hb2 hbz; have hbs2 := hbes.trans hb2)
        | (at_builtin; refine wpList_pushF _ rfl (.tmp 12) (.tmp 15) rfl w.heap.size _ _ f rfl ho2 rfl (by omega) hbs2.2.2.2.1 ?_; intro v3 w3 ho3 hg3))
      have hbs3 := hbs2.grown hg3 (OwnsF.from ho2)
      have hc3 := hc2.kept (grown_low hg3 (OwnsF.from ho2) hbs2.2.2.2.1) hbz
      clear hown hcur hbes ho2 hc2 hbs2 hb2 hg3
      go_roundw
      case rel => exact ⟨k - 1, l ++ [f], by go_num, by simp; omega, (by
          intro g hg
          rcases List.mem_append.1 hg with hg | hg
          · exact hsm g hg
          · rw [List.mem_singleton.1 hg]; exact ⟨hf1, hf2⟩), ho3, hc3, hbs3⟩
      case measure => simp [intOf]; omega
    · obtain rfl : k = 0 := by omega
      obtain ⟨w4, rfl⟩ : ∃ y, y = wr := ⟨wr, rfl⟩
      go_wp2_with fail
      refine (l1Once b sa sl sc 40 (by decide) (by decide) w4 hcur).mono ?_
      rintro e w5 ⟨tt, rfl, hc5, hb5⟩
      have ho5 := hown.beside hb5 hbz
      have hbs5 := hbes.trans hb5
      clear hown hcur hbes hb5
      cases tt with
      | false =>
        go_wp2
        go_ret
        exact ⟨⟨_, l, rfl, ho5, by omega, hsm⟩, hc5, hbs5⟩
      | true =>
        have hba := (Below.refl w5.heap.size w5).alloc (Nat.le_refl _) (.cells #[] 83)
        have ho6 := (OwnsF.born w5).low hbs5.2.2.2.1
        have hc6 := hc5.kept hba hc5.2.2.1
        have hbs6 := hbs5.below hba
        clear ho5 hsm hlk
        go_wp2_with fail
        go_loopw [3] (fun u wr => ∃ l : List Fl, lenV u = l.length ∧ SmallF l ∧ OwnsF wr w.heap.size u l ∧ Cur wr b sa sl sc ∧ Beside b w wr) (fun u _ => 31 - lenV u)
        case atStart => exact ⟨[], rfl, ⟨by simp, by intro f hf; cases hf⟩, ho6, hc6, hbs6⟩
        case round =>
          clear ho6 hc6 hbs6 hba hc5 hbs5
          obtain ⟨l, hlv, hsm, hown, hcur, hbes⟩ := hrel
          obtain ⟨au, cu, rfl, huc, hum⟩ := hown.form
          have h31 := hsm.1
          go_wp2_with fail
          refine (l1Below b sa sl sc 2 (by decide) (by decide) wr hcur).mono ?_
          rintro e w7 ⟨z, rfl, hz0, hz1, hc7, hb7⟩
          have ho7 := hown.beside hb7 hbz
          have hbs7 := hbes.trans hb7
          by_cases hlt : (l.length : Int) < 30 + z
          · clear hown hcur hbes hb7
            go_wp2_with (at_builtin; refine wpList_pushF _ rfl (.tmp 26) (.tmp 28) rfl w.heap.size _ _ (⟨#[97]⟩, ⟨#[]⟩) rfl ho7 rfl (by omega) hbs7.2.2.2.1 ?_; intro v8 w8 ho8 hg8)
            have hbs8 := hbs7.grown hg8 (OwnsF.from ho7)
            have hc8 := hc7.kept (grown_low hg8 (OwnsF.from ho7) hbs7.2.2.2.1) hbz
            obtain ⟨a8, c8, rfl, _, _⟩ := ho8.form
            clear ho7 hc7 hbs7 hg8
            go_roundw
            case rel => exact ⟨l ++ [(⟨#[97]⟩, ⟨#[]⟩)], rfl, ⟨by simp; omega, (by
                intro g hg
                rcases List.mem_append.1 hg with hg | hg
                · exact hsm.2 g hg
                · rw [List.mem_singleton.1 hg]; decide)⟩, ho8, hc8, hbs8⟩
            case measure => simp [lenV]; omega
          · clear hown hcur hbes hb7
            go_wp2
            go_ret
            exact ⟨⟨_, l, rfl, ho7, hsm⟩, hc7, hbs7⟩
end Go.Proofs.YtemmgfnepdgpbaaGreatDoor

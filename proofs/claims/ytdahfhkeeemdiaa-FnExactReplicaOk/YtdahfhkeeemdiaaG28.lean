/-
  A region that draws its order: its first n operations whichever way, by what each of them leaves; the others wait for them and come one behind the other.
  Calls as steps of a region that draws its order, also behind a guard.
  The specification's right sketches, and new ones.
-/
import Derived.Test.YtdahfhkeeemdiaaRows
import Derived.StillTail
import Derived.Deep.QuietTactic
import Derived.Lib.QuietBelow
import Derived.BigQuiet
import Derived.Test.YtdahfhkeeemdiaaG17
import Derived.Test.YtdahfhkeeemdiaaG13
import Derived.Test.YtdahfhkeeemdiaaG01
import Derived.Test.YtdahfhkeeemdiaaG26
import Derived.Deep.DeepCutAuto
import Derived.Test.YtdahfhkeeemdiaaG02
import Derived.Test.YtdahfhkeeemdiaaG19
namespace Go.Proofs.Ytdahfhkeeemdiaa
open Go Go.RowKit Go.Sort
set_option linter.unusedVariables false

def updH {α : Type} (f : Nat → α) (i : Nat) (x : α) : Nat → α := fun j => if j = i then x else f j
theorem updH_same {α : Type} (f : Nat → α) (i : Nat) (x : α) : updH f i x i = x := if_pos rfl
theorem updH_other {α : Type} (f : Nat → α) {i j : Nat} (x : α) (h : j ≠ i) : updH f i x j = f j := if_neg h
def leftH (listed : Array Bool) : Nat := listed.toList.count false
theorem leftH_set {listed : Array Bool} {i : Nat} (hi : listed.getD i true = false) : leftH (listed.setIfInBounds i true) + 1 = leftH listed := by
  have hlt : i < listed.size := by
    rcases Nat.lt_or_ge i listed.size with h | h
    · exact h
    · simp [Array.getElem?_eq_none h] at hi
  have he : listed.toList[i]'(by simpa using hlt) = false := by
    simp [hlt] at hi
    simpa using hi
  unfold leftH
  rw [Array.toList_setIfInBounds, List.count_set (by simpa using hlt)]
  have hp : 0 < listed.toList.count false := List.count_pos_iff.2 (by rw [← he]; exact List.getElem_mem _)
  rw [he]
  show listed.toList.count false - 1 + 0 + 1 = listed.toList.count false
  omega
/-- Each of the first n operations waits for elder ones alone. -/
def backB (ops : Array Oper) (n : Nat) : Bool := (List.range n).all fun i => match ops[i]? with
  | some o => o.after.all fun e => !Region.binds .any e || decide (e.on < i)
  | none => true
theorem backB_spec {ops : Array Oper} {n : Nat} (h : backB ops n = true) {i : Nat} {o : Oper} (hi : i < n) (ho : ops[i]? = some o) : ∀ e ∈ o.after, Region.binds .any e = true → e.on < i := by
  intro e he hb
  have h1 := List.all_eq_true.1 h i (List.mem_range.2 hi)
  simp only [ho] at h1
  have h2 := Array.all_eq_true'.1 h1 e he
  rw [hb] at h2
  simpa using h2
theorem firsts {ops : Array Oper} {n : Nat} {listed : Array Bool} (hs : listed.size = ops.size) (hn : n < ops.size) (hb : backB ops n = true) (hr : Region.ready .any ops listed = []) : ∀ i, i < n → listed.getD i false = true := by
  intro i
  induction i using Nat.strongRecOn with
  | _ i ih =>
    intro hi
    cases h : listed.getD i false with
    | true => rfl
    | false =>
      have hlt : i < ops.size := by omega
      have hm : i ∈ Region.ready .any ops listed := mem_ready.2 ⟨getD_in (by omega) h, ops[i], by simp [hlt], fun e he hbd => by
        have h2 := backB_spec hb hi (o := ops[i]) (by simp [hlt]) e he hbd
        exact ih e.on h2 (by omega)⟩
      rw [hr] at hm
      cases hm
theorem allListed {n m : Nat} {listed : Array Bool} (hs : listed.size = n + m) (h1 : ∀ i, i < n → listed.getD i false = true) (h2 : ∀ t, n ≤ t → t < n + m → listed.getD t true = false) : listed = Array.replicate n true ++ Array.replicate m false := by
  apply Array.ext
  · simp [hs]
  · intro i hi1 hi2
    rcases Nat.lt_or_ge i n with h | h
    · have := h1 i h
      simp [hi1] at this
      rw [this, Array.getElem_append_left (by simpa using h)]
      simp
    · have := h2 i h (by omega)
      simp [hi1] at this
      rw [this, Array.getElem_append_right (by simpa using h)]
      simp
section
variable {P : Program}
theorem any_heads {l : List Oper} {Q : Exit → Act → World → Prop} (n : Nat) (hn : n < l.length) (hs : Region.sinkB .any l.toArray n = true) (hc : Region.chainB .any l.toArray n = true)
    (hq : Region.seqB .any l.toArray (l.length - n) n (Array.replicate n true ++ Array.replicate (l.length - n) false) = true) (hb : backB l.toArray n = true)
    (F : (Nat → Value) → Act) (d : Nat → Nat) (S : World → Prop) (G : Nat → World → Value → Prop) (hinj : ∀ i j, i < n → j < n → j ≠ i → d j ≠ d i) (hput : ∀ (i : Nat) (o : Oper), i < n → l[i]? = some o → ∀ (t : Nat → Value) (v : Value), (F t).put o.dst v = F (updH t (d i) v))
    (hstep : ∀ (i : Nat) (o : Oper), i < n → l[i]? = some o → ∀ (t : Nat → Value) (x : World), S x → (∀ e ∈ o.after, Region.binds .any e = true → G e.on x (t (d e.on))) → ∀ K : Act → World → Prop,
      (∀ v y, S y → (∀ j u, j < n → j ≠ i → G j x u → G j y u) → G i y v → K ((F t).put o.dst v) y) →
      if Region.wanted o (yielded l.toArray (F t).tmps) = true then Oper.wp P o (F t) x K Q else K ((F t).put o.dst undef) x)
    (hdone : ∀ (t : Nat → Value) (x : World), S x → (∀ j, j < n → G j x (t (d j))) → wpList P l.toArray Q (l.drop n) (F t) x) :
    ∀ (f : Nat) (listed : Array Bool) (t : Nat → Value) (x : World), leftH listed = f → HeadInv .any l.toArray n listed → S x → (∀ j, j < n → listed.getD j false = true → G j x (t (d j))) → wpAny P .any l.toArray Q f listed (F t) x := by
  have hsz : l.toArray.size = n + (l.length - n) := by simp; omega
  have hn2 : n < l.toArray.size := by simpa using hn
  intro f
  induction f with
  | zero =>
    intro listed t x hf inv hS hG
    have h1 := inv.tail n (Nat.le_refl _) hn2
    have := leftH_set h1
    omega
  | succ f ih =>
    intro listed t x hf inv hS hG
    by_cases hall : ∀ i, i < n → listed.getD i false = true
    · have e := allListed (inv.size.trans hsz) hall (fun u h1 h2 => inv.tail u h1 (by omega))
      have hl : leftH listed = l.length - n := by rw [e]; unfold leftH; simp [List.count_replicate]
      have hf2 : f + 1 = (l.drop n).length := by rw [List.length_drop]; omega
      rw [hf2]
      refine wpAny_of_seq (md := .any) (Q' := Q) (l.drop n) n listed (F t) x (fun j => by simp [List.getElem?_drop]) ?_ (hdone t x hS fun j hj => hG j hj (hall j hj))
      rw [List.length_drop, e]
      exact hq
    · obtain ⟨i0, hi0, hu0⟩ : ∃ i, i < n ∧ listed.getD i false = false := by
        refine Classical.byContradiction fun hno => hall fun i hi => ?_
        cases h : listed.getD i false with
        | true => rfl
        | false => exact absurd ⟨i, hi, h⟩ hno
      have hu0' : listed.getD i0 true = false := getD_in (by rw [inv.size]; omega) hu0
      refine ⟨fun hr => absurd (firsts inv.size hn2 hb hr) hall, fun i hi => ?_⟩
      have hin : i < n := by
        rcases Nat.lt_or_ge i n with h | h
        · exact h
        · exact absurd hi (tail_waits hs hc hn2 inv _ i0 rfl hi0 hu0' i h)
      obtain ⟨h1, o, ho, hdep⟩ := mem_ready.1 hi
      have hdn : ∀ e ∈ o.after, Region.binds .any e = true → e.on < i := backB_spec hb hin ho
      have ho2 : l[i]? = some o := by simpa using ho
      have hc1 := leftH_set h1
      have key := hstep i o hin ho2 t x hS (fun e he hbd => hG e.on (by have := hdn e he hbd; omega) (hdep e he hbd)) (wpAny P .any l.toArray Q f (listed.setIfInBounds i true)) (fun v y hSy hkeep hGi => by
        rw [hput i o hin ho2 t v]
        refine ih _ _ y (by omega) (inv.set hi hin) hSy fun j hj hl => ?_
        by_cases hji : j = i
        · subst hji
          rw [updH_same]
          exact hGi
        · rw [updH_other _ _ (hinj i j hin hj hji)]
          rw [getD_set_ne false (Ne.symm hji)] at hl
          exact hkeep j _ hj hji (hG j hj hl))
      unfold wpOp
      rw [ho]
      show if Region.wanted o (yielded l.toArray (F t).tmps) = true then _ else _
      split
      · rename_i hw
        rw [if_pos hw] at key
        exact Or.inl key
      · rename_i hw
        rw [if_neg hw] at key
        exact key
/-- The first n operations come whichever way; what each leaves (G) is good for as long as the others leave it so; then the rest, in order. -/
theorem region_heads {l : List Oper} {Q : Exit → Act → World → Prop} {id : Nat} {a : Act} {w : World} (n : Nat) (hm : P.follows .mixedOrders = true) (hn : n < l.length) (hs : Region.sinkB .any l.toArray n = true) (hc : Region.chainB .any l.toArray n = true)
    (hq : Region.seqB .any l.toArray (l.length - n) n (Array.replicate n true ++ Array.replicate (l.length - n) false) = true) (hb : backB l.toArray n = true)
    (F : (Nat → Value) → Act) (d : Nat → Nat) (S : World → Prop) (G : Nat → World → Value → Prop) (hinj : ∀ i j, i < n → j < n → j ≠ i → d j ≠ d i) (hput : ∀ (i : Nat) (o : Oper), i < n → l[i]? = some o → ∀ (t : Nat → Value) (v : Value), (F t).put o.dst v = F (updH t (d i) v)) (t0 : Nat → Value) (h0 : a = F t0) (hS : S w.drew)
    (hstep : ∀ (i : Nat) (o : Oper), i < n → l[i]? = some o → ∀ (t : Nat → Value) (x : World), S x → (∀ e ∈ o.after, Region.binds .any e = true → G e.on x (t (d e.on))) → ∀ K : Act → World → Prop,
      (∀ v y, S y → (∀ j u, j < n → j ≠ i → G j x u → G j y u) → G i y v → K ((F t).put o.dst v) y) →
      if Region.wanted o (yielded l.toArray (F t).tmps) = true then Oper.wp P o (F t) x K Q else K ((F t).put o.dst undef) x)
    (hdone : ∀ (t : Nat → Value) (x : World), S x → (∀ j, j < n → G j x (t (d j))) → wpList P l.toArray Q (l.drop n) (F t) x) : (Code.region id l.toArray true).wp P Q a w := by
  subst h0
  refine wp_region_any hm ?_
  have inv0 : HeadInv .any l.toArray n (Array.replicate l.toArray.size false) := ⟨by simp, fun j oj _ hl => (by rw [getD_replicate_false] at hl; cases hl), fun t _ ht => getD_in (by simpa using ht) (getD_replicate_false _ _)⟩
  exact any_heads n hn hs hc hq hb F d S G hinj hput hstep hdone _ _ t0 _ (by unfold leftH; simp) inv0 hS (fun j _ hl => by rw [getD_replicate_false] at hl; cases hl)
end
end Go.Proofs.Ytdahfhkeeemdiaa
namespace Go.Proofs.Ytdahfhkeeemdiaa
open Go.RowKit Go.Sort
set_option linter.unusedVariables false

theorem callG {ops : Array Oper} {o : Oper} {a : Act} {w : World} {K : Act → World → Prop} {Q : Exit → Act → World → Prop} {E : Prop} (hw : Region.wanted o (yielded ops a.tmps) = true) (f : FuncId) (xs : Array Operand) (ts : Array TypeId)
    (ho : o.op = .call { callee := .value (.func f), args := xs, argTypes := ts }) (vals : Array Value) (hv : xs.map a.eval = vals) (hent : ∀ w, (callFunc f vals).run Try.prog w = .ok (.enter f vals) w) (R : Value → World → Prop)
    (hc : Calls Try.prog f vals w fun e w' => ∃ v, e = .returned v ∧ R v w') (h : ∀ v w', R v w' → K (a.put o.dst v) w') :
    if Region.wanted o (yielded ops a.tmps) = true then Oper.wp Try.prog o a w K Q else E := by
  rw [if_pos hw]
  unfold Oper.wp
  have he : (execOp a.eval o).run Try.prog w = .ok (.enter f vals) w := by
    simp [execOp, ho, resolve, invoke, hv]
    rw [show a.eval (Operand.func f) = _ from rfl]
    simp [Act.eval, Deferred.ofValue, hent]
  rw [he, Oper.upon_enter]
  refine hc.mono ?_
  rintro e w' ⟨v, rfl, hr⟩
  exact h v w' hr
theorem callG2 {ops : Array Oper} {o : Oper} {a : Act} {w : World} {K : Act → World → Prop} {Q : Exit → Act → World → Prop} {E : Prop} (hw : Region.wanted o (yielded ops a.tmps) = true) (f : FuncId) (x0 x1 : Operand) (ts : Array TypeId)
    (ho : o.op = .call { callee := .value (.func f), args := #[x0, x1], argTypes := ts }) (v0 v1 : Value) (h0 : a.eval x0 = v0) (h1 : a.eval x1 = v1) (hent : ∀ w, (callFunc f #[v0, v1]).run Try.prog w = .ok (.enter f #[v0, v1]) w) (R : Value → World → Prop)
    (hc : Calls Try.prog f #[v0, v1] w fun e w' => ∃ v, e = .returned v ∧ R v w') (h : ∀ v w', R v w' → K (a.put o.dst v) w') :
    if Region.wanted o (yielded ops a.tmps) = true then Oper.wp Try.prog o a w K Q else E :=
  callG hw f #[x0, x1] ts ho #[v0, v1] (by simp [h0, h1]) hent R hc h
theorem callG1 {ops : Array Oper} {o : Oper} {a : Act} {w : World} {K : Act → World → Prop} {Q : Exit → Act → World → Prop} {E : Prop} (hw : Region.wanted o (yielded ops a.tmps) = true) (f : FuncId) (x0 : Operand) (ts : Array TypeId)
    (ho : o.op = .call { callee := .value (.func f), args := #[x0], argTypes := ts }) (v0 : Value) (h0 : a.eval x0 = v0) (hent : ∀ w, (callFunc f #[v0]).run Try.prog w = .ok (.enter f #[v0]) w) (R : Value → World → Prop)
    (hc : Calls Try.prog f #[v0] w fun e w' => ∃ v, e = .returned v ∧ R v w') (h : ∀ v w', R v w' → K (a.put o.dst v) w') :
    if Region.wanted o (yielded ops a.tmps) = true then Oper.wp Try.prog o a w K Q else E :=
  callG hw f #[x0] ts ho #[v0] (by simp [h0]) hent R hc h
end Go.Proofs.Ytdahfhkeeemdiaa
namespace Go.Proofs.Ytdahfhkeeemdiaa
open Go.RowKit Go.Sort Ow Sk
set_option linter.unusedVariables false
set_option linter.unusedSimpArgs false

theorem pastK {w w1 w2 : World} (h : Below w.heap.size w w1) (hb : Below w1.heap.size w1 w2) : Below w.heap.size w w2 := h.trans (hb.mono h.size)
theorem inRmR (s lo hi : Int) (b : Bool) (h : inM s lo hi = b) (w : World) (d : Nat) (os : Array Obj) : Calls Try.prog 24 #[.int .i64 s, .int .i64 lo, .int .i64 hi] (grow (redrawn w d) os) fun e w'' => e = .returned (.bool b) ∧ ∃ p : Regrown, w'' = grow (redrawn w p.d) p.os :=
  Calls.regrown_of ((inRm s lo hi _).mono fun e w' ⟨h1, h2⟩ => ⟨by rw [h1, h], h2 ▸ Below.refl _ _⟩)
set_option maxRecDepth 100000 in
set_option maxHeartbeats 1000000 in
theorem specRis (v : Value) (l : List Int) (b : Int) (w : World) (h : Sls intE w v l) (hb1 : 1 ≤ b) (hb2 : b ≤ 1000) :
    Calls Try.prog 50 #[v, .int .i64 b] w fun e w' => e = .returned (.bool (risB l b)) ∧ Below w.heap.size w w' := by
  obtain ⟨a, cap, rfl, h1, h2, h3⟩ := h.one
  have H2 : Hid (cap ≤ maxLen) := h2
  have HC : Hid (0 < l.length → ∃ g o, a = some ⟨g, o, none⟩ ∧ g < w.heap.size ∧ ∀ j (hj : j < l.length), w.cell? ⟨g, o + j, none⟩ = some (.int .i64 l[j])) := h3
  have ew : IntKind.i64.wrap (b - 1) = b - 1 := by rw [IntKind.wrap_i64]; omega
  unfold maxLen at h2
  have hll : l.length ≤ 9223372036854775807 := by omega
  clear h h2 h3
  go_enter Try.func50, Try.ntmps50
  go_wp2
  go_loopw [5] (fun i wr => ∃ k : Nat, k ≤ l.length ∧ i = .int .i64 k ∧ Hid (∀ (i : Nat) (hi : i < l.length), i < k → stepR l b i hi) ∧ Hid (Below w.heap.size w wr)) (fun i _ => l.length - (intOf i).toNat)
  case atStart => exact ⟨0, Nat.zero_le _, rfl, (show ∀ _, _ from fun i hi h => by omega), (show Hid _ from Below.refl _ _)⟩
  case round =>
    obtain ⟨k, hk, rfl, hst, hb⟩ := hrel
    by_cases hlt : k < l.length
    · obtain ⟨g, o, rfl, hg, hc⟩ := HC.out (by omega)
      have c1 := (hb.out.cell (p := ⟨g, o + k, none⟩) hg).trans (hc k hlt)
      have hki : (k : Int) < (l.length : Int) := by omega
      have k1 := cell_regrown c1
      cases hin : inM l[k] 0 (b - 1) with
      | false =>
        have HR : Hid (risB l b = false) := risB_not k hlt (fun h => by have := of_decide_eq_false hin; exact this h.1)
        have j1 := inRmR l[k] 0 (b - 1) false hin wr
        generalize l[k] = x at c1 k1 j1
        clear c1 hin hc
        go_wp2_with fail
        refine wp_region_quiet_below (by kernel_rfl) (by kernel_rfl) ?_
        repeat (go_big_quiet_step (with_reducible exact j1 _ _))
        refine wpQuiet_nil ?_
        intro _ hw'
        obtain ⟨⟨dq, osq⟩, hw''⟩ := hw'
        subst hw''
        have BN : Hid (Below w.heap.size w (grow (redrawn wr dq) osq)) := (show Hid _ from pastK hb.out (below_regrown wr dq osq))
        generalize grow (redrawn wr dq) osq = wn at BN ⊢
        go_wp2
        go_ret
        exact ⟨congrArg (fun b => Ending.returned (.bool b)) HR.out.symm, BN.out⟩
      | true =>
        have j1 := inRmR l[k] 0 (b - 1) true hin wr
        have hin2 := of_decide_eq_true hin
        by_cases hk0 : 0 < k
        · have c0 := (hb.out.cell (p := ⟨g, o + (k - 1), none⟩) hg).trans (hc (k - 1) (by omega))
          have k0 := cell_regrown c0
          by_cases hle : l[k] ≤ l[k - 1]
          · have HR : Hid (risB l b = false) := risB_not k hlt (fun h => by have := h.2 hk0; omega)
            generalize l[k] = x at c1 k1 j1 hle
            generalize l[k - 1] = y at c0 k0 hle
            have hk0i : (0 : Int) < (k : Int) := by omega
            have hkm : ((k : Int) - 1).toNat = k - 1 := by omega
            clear c1 c0 hin hin2 hc
            go_wp2_with fail
            refine wp_region_quiet_below (by kernel_rfl) (by kernel_rfl) ?_
            repeat (go_big_quiet_step (with_reducible exact j1 _ _))
            refine wpQuiet_nil ?_
            intro _ hw'
            obtain ⟨⟨dq, osq⟩, hw''⟩ := hw'
            subst hw''
            have BN : Hid (Below w.heap.size w (grow (redrawn wr dq) osq)) := (show Hid _ from pastK hb.out (below_regrown wr dq osq))
            generalize grow (redrawn wr dq) osq = wn at BN ⊢
            go_wp2
            go_ret
            exact ⟨congrArg (fun b => Ending.returned (.bool b)) HR.out.symm, BN.out⟩
          · have HS : Hid (∀ (i : Nat) (hi : i < l.length), i < k + 1 → stepR l b i hi) := (show ∀ _, _ from fun i hi h => by
              by_cases e : i = k
              · subst e
                exact ⟨hin2, fun h0 => by omega⟩
              · exact hst.out i hi (by omega))
            generalize l[k] = x at c1 k1 j1 hle
            generalize l[k - 1] = y at c0 k0 hle
            have hk0i : (0 : Int) < (k : Int) := by omega
            have hkm : ((k : Int) - 1).toNat = k - 1 := by omega
            clear c1 c0 hin hin2 hst hc
            go_wp2_with fail
            refine wp_region_quiet_below (by kernel_rfl) (by kernel_rfl) ?_
            repeat (go_big_quiet_step (with_reducible exact j1 _ _))
            refine wpQuiet_nil ?_
            intro _ hw'
            obtain ⟨⟨dq, osq⟩, hw''⟩ := hw'
            subst hw''
            have BN : Hid (Below w.heap.size w (grow (redrawn wr dq) osq)) := (show Hid _ from pastK hb.out (below_regrown wr dq osq))
            generalize grow (redrawn wr dq) osq = wn at BN ⊢
            go_wp2
            go_roundw
            case rel => exact ⟨k + 1, by omega, by go_num, HS, BN⟩
            case measure => simp [intOf]; omega
        · have HS : Hid (∀ (i : Nat) (hi : i < l.length), i < k + 1 → stepR l b i hi) := (show ∀ _, _ from fun i hi h => by
            by_cases e : i = k
            · subst e
              exact ⟨hin2, fun h0 => absurd h0 hk0⟩
            · exact hst.out i hi (by omega))
          generalize l[k] = x at c1 k1 j1
          have hk0i : ¬ (0 : Int) < (k : Int) := by omega
          clear c1 hin hin2 hst hc
          go_wp2_with fail
          refine wp_region_quiet_below (by kernel_rfl) (by kernel_rfl) ?_
          repeat (go_big_quiet_step (with_reducible exact j1 _ _))
          refine wpQuiet_nil ?_
          intro _ hw'
          obtain ⟨⟨dq, osq⟩, hw''⟩ := hw'
          subst hw''
          have BN : Hid (Below w.heap.size w (grow (redrawn wr dq) osq)) := (show Hid _ from pastK hb.out (below_regrown wr dq osq))
          generalize grow (redrawn wr dq) osq = wn at BN ⊢
          go_wp2
          go_roundw
          case rel => exact ⟨k + 1, by omega, by go_num, HS, BN⟩
          case measure => simp [intOf]; omega
    · obtain rfl : k = l.length := by omega
      have HR : Hid (risB l b = true) := risB_of (fun i hi => hst.out i hi hi)
      go_wp2
      go_ret
      exact ⟨congrArg (fun b => Ending.returned (.bool b)) HR.out.symm, hb.out⟩
end Go.Proofs.Ytdahfhkeeemdiaa

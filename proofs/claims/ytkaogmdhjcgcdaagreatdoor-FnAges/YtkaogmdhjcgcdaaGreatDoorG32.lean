/-
  A call of a function of the program, met by its contract, as one step of a region that draws its order.
  A date read: the program's contract.
  The program's methodOk, targetOk, statusOk, isBodiless, Framing, isUnframed, RequestOk and ResponseOk by their contracts.
  The program's policy by its contracts: keys, moments, what is a right object.
  The program's policy by its contracts: the control, the tag and the moment of fields; what may be stored.
  The program's Storable by its contract.
  The program's objects behind their interface, by contract: its methods; how long one is fresh, how old it is.
-/
import Derived.Test.YtkaogmdhjcgcdaaGreatDoorG30
import Derived.Laws.Append
import Derived.Test.YtkaogmdhjcgcdaaGreatDoorG21
import Derived.Test.YtkaogmdhjcgcdaaGreatDoorG31
import Derived.Shelf.Abstract
import Derived.Deep.DeepCutAuto
import Derived.Deep.RegionWith
import Derived.BigRegion
import Derived.Deep.Cut
import Derived.Deep.CutRange
import Derived.Test.YtkaogmdhjcgcdaaGreatDoorG22
import Derived.Shelf.Strings.IndexAnyAll
import Derived.Test.YtkaogmdhjcgcdaaGreatDoorProg
import Derived.Test.YtkaogmdhjcgcdaaGreatDoorG27
import Derived.Test.YtkaogmdhjcgcdaaGreatDoorG29
import Derived.Test.YtkaogmdhjcgcdaaGreatDoorG20
import Derived.Stop.Asserts
namespace Go.Proofs.YtkaogmdhjcgcdaaGreatDoor
open Go.RowKit Go.Sort

theorem step_call {ops : Array Oper} {o : Oper} {a : Act} {w : World} {K : Act → World → Prop} {Q : Exit → Act → World → Prop} {E : Prop} (hgd : o.guard = none) (f : FuncId) (xs : Array Operand) (ts : Array TypeId)
    (ho : o.op = .call { callee := .value (.func f), args := xs, argTypes := ts }) (vals : Array Value) (hv : xs.map a.eval = vals) (hent : ∀ w, (callFunc f vals).run Tryz.prog w = .ok (.enter f vals) w) (R : Value → World → Prop)
    (hc : Calls Tryz.prog f vals w fun e w' => ∃ v, e = .returned v ∧ R v w') (h : ∀ v w', R v w' → K (a.put o.dst v) w') :
    if Region.wanted o (yielded ops a.tmps) = true then Oper.wp Tryz.prog o a w K Q else E := by
  have hw : Region.wanted o (yielded ops a.tmps) = true := by simp [Region.wanted, hgd]
  rw [if_pos hw]
  unfold Oper.wp
  have he : (execOp a.eval o).run Tryz.prog w = .ok (.enter f vals) w := by
    simp [execOp, ho, resolve, invoke, hv]
    rw [show a.eval (Operand.func f) = _ from rfl]
    simp [Act.eval, Deferred.ofValue, hent]
  rw [he, Oper.upon_enter]
  refine hc.mono ?_
  rintro e w' ⟨v, rfl, hr⟩
  exact h v w' hr
theorem step_call2 {ops : Array Oper} {o : Oper} {a : Act} {w : World} {K : Act → World → Prop} {Q : Exit → Act → World → Prop} {E : Prop} (hgd : o.guard = none) (f : FuncId) (x0 x1 : Operand) (ts : Array TypeId)
    (ho : o.op = .call { callee := .value (.func f), args := #[x0, x1], argTypes := ts }) (v0 v1 : Value) (h0 : a.eval x0 = v0) (h1 : a.eval x1 = v1) (hent : ∀ w, (callFunc f #[v0, v1]).run Tryz.prog w = .ok (.enter f #[v0, v1]) w) (R : Value → World → Prop)
    (hc : Calls Tryz.prog f #[v0, v1] w fun e w' => ∃ v, e = .returned v ∧ R v w') (h : ∀ v w', R v w' → K (a.put o.dst v) w') :
    if Region.wanted o (yielded ops a.tmps) = true then Oper.wp Tryz.prog o a w K Q else E :=
  step_call hgd f #[x0, x1] ts ho #[v0, v1] (by simp [h0, h1]) hent R hc h
theorem step_call1 {ops : Array Oper} {o : Oper} {a : Act} {w : World} {K : Act → World → Prop} {Q : Exit → Act → World → Prop} {E : Prop} (hgd : o.guard = none) (f : FuncId) (x0 : Operand) (ts : Array TypeId)
    (ho : o.op = .call { callee := .value (.func f), args := #[x0], argTypes := ts }) (v0 : Value) (h0 : a.eval x0 = v0) (hent : ∀ w, (callFunc f #[v0]).run Tryz.prog w = .ok (.enter f #[v0]) w) (R : Value → World → Prop)
    (hc : Calls Tryz.prog f #[v0] w fun e w' => ∃ v, e = .returned v ∧ R v w') (h : ∀ v w', R v w' → K (a.put o.dst v) w') :
    if Region.wanted o (yielded ops a.tmps) = true then Oper.wp Tryz.prog o a w K Q else E :=
  step_call hgd f #[x0] ts ho #[v0] (by simp [h0]) hent R hc h
end Go.Proofs.YtkaogmdhjcgcdaaGreatDoor
namespace Go.Proofs.YtkaogmdhjcgcdaaGreatDoor.Dd
open Go.RowKit Go.Sort

def frRd (t0 : ByteArray) (n0 : Nat) (t : Nat → Value) : Act := { tmps := #[.string t0, undef, .pointer (some ⟨n0, 0, none⟩), .bool false, t 4, .string t0, .int .i64 29, .bool false, undef, t 9, t 10, t 11, t 12, t 13, t 14, t 15, t 16, t 17, t 18, t 19, t 20, t 21, t 22, t 23, t 24, t 25, t 26, t 27, undef, undef, undef, undef, undef, undef], defers := [] }
def dRd (i : Nat) : Nat := if i = 0 then 9 else if i = 1 then 10 else if i = 2 then 11 else if i = 3 then 12 else if i = 4 then 13 else if i = 5 then 14 else if i = 6 then 15 else if i = 7 then 16 else if i = 8 then 17 else if i = 9 then 18 else if i = 10 then 19 else if i = 11 then 20 else if i = 12 then 21 else if i = 13 then 22 else if i = 14 then 23 else if i = 15 then 24 else if i = 16 then 25 else if i = 17 then 26 else if i = 18 then 27 else if i = 19 then 4 else i + 5000
def GRd (t0 : ByteArray) (n0 : Nat) (i : Nat) (x : World) (v : Value) : Prop := match i with
  | 0 => v = (.string t0)
  | 1 => v = (.string (t0.extract 12 16))
  | 2 => v = (.int .i64 (numV 10 15 (t0.extract 12 16)))
  | 3 => v = (.string t0)
  | 4 => v = (.string (t0.extract 8 11))
  | 5 => v = (.int .i64 (monV (t0.extract 8 11)))
  | 6 => v = (.string t0)
  | 7 => v = (.string (t0.extract 5 7))
  | 8 => v = (.int .i64 (numV 10 15 (t0.extract 5 7)))
  | 9 => v = (.string t0)
  | 10 => v = (.string (t0.extract 17 19))
  | 11 => v = (.int .i64 (numV 10 15 (t0.extract 17 19)))
  | 12 => v = (.string t0)
  | 13 => v = (.string (t0.extract 20 22))
  | 14 => v = (.int .i64 (numV 10 15 (t0.extract 20 22)))
  | 15 => v = (.string t0)
  | 16 => v = (.string (t0.extract 23 25))
  | 17 => v = (.int .i64 (numV 10 15 (t0.extract 23 25)))
  | 18 => v = (.agg #[.int .i64 (numV 10 15 (t0.extract 12 16)), .int .i64 (monV (t0.extract 8 11)), .int .i64 (numV 10 15 (t0.extract 5 7)), .int .i64 (numV 10 15 (t0.extract 17 19)), .int .i64 (numV 10 15 (t0.extract 20 22)), .int .i64 (numV 10 15 (t0.extract 23 25))])
  | 19 => ∃ g, v = .pointer (some ⟨g, 0, none⟩) ∧ Zb x g ∧ n0 < g
  | _ => True
theorem GRd.keep (t0 : ByteArray) (n0 : Nat) {x y : World} (hb : Grew x y) (j : Nat) (v : Value) (hj : j < 20) (h : GRd t0 n0 j x v) : GRd t0 n0 j y v := by
  rcases (show j = 0 ∨ j = 1 ∨ j = 2 ∨ j = 3 ∨ j = 4 ∨ j = 5 ∨ j = 6 ∨ j = 7 ∨ j = 8 ∨ j = 9 ∨ j = 10 ∨ j = 11 ∨ j = 12 ∨ j = 13 ∨ j = 14 ∨ j = 15 ∨ j = 16 ∨ j = 17 ∨ j = 18 ∨ j = 19 by omega) with rfl | rfl | rfl | rfl | rfl | rfl | rfl | rfl | rfl | rfl | rfl | rfl | rfl | rfl | rfl | rfl | rfl | rfl | rfl | rfl
  · exact h
  · exact h
  · exact h
  · exact h
  · exact h
  · exact h
  · exact h
  · exact h
  · exact h
  · exact h
  · exact h
  · exact h
  · exact h
  · exact h
  · exact h
  · exact h
  · exact h
  · exact h
  · exact h
  · obtain ⟨g, h1, h2, h3⟩ := h; exact ⟨g, h1, h2.grew hb, h3⟩
theorem dRd_ne {i j : Nat} (hi : i < 20) (hj : j < 20) (h : j ≠ i) : dRd j ≠ dRd i := by
  rcases (show i = 0 ∨ i = 1 ∨ i = 2 ∨ i = 3 ∨ i = 4 ∨ i = 5 ∨ i = 6 ∨ i = 7 ∨ i = 8 ∨ i = 9 ∨ i = 10 ∨ i = 11 ∨ i = 12 ∨ i = 13 ∨ i = 14 ∨ i = 15 ∨ i = 16 ∨ i = 17 ∨ i = 18 ∨ i = 19 by omega) with rfl | rfl | rfl | rfl | rfl | rfl | rfl | rfl | rfl | rfl | rfl | rfl | rfl | rfl | rfl | rfl | rfl | rfl | rfl | rfl <;> rcases (show j = 0 ∨ j = 1 ∨ j = 2 ∨ j = 3 ∨ j = 4 ∨ j = 5 ∨ j = 6 ∨ j = 7 ∨ j = 8 ∨ j = 9 ∨ j = 10 ∨ j = 11 ∨ j = 12 ∨ j = 13 ∨ j = 14 ∨ j = 15 ∨ j = 16 ∨ j = 17 ∨ j = 18 ∨ j = 19 by omega) with rfl | rfl | rfl | rfl | rfl | rfl | rfl | rfl | rfl | rfl | rfl | rfl | rfl | rfl | rfl | rfl | rfl | rfl | rfl | rfl <;> first | (exact absurd rfl h) | decide
set_option maxRecDepth 100000 in
set_option maxHeartbeats 8000000 in
theorem implRead_x (t0 : ByteArray) (w : World) (ht : Tab w) (hz : t0.size = 29) :
    Calls Tryz.prog 118 #[.string t0] w fun e w' => (∃ v, e = .returned v ∧ ReadIs t0 v) ∧ Grew w w' := by
  have hd := fun a b (x : World) => digNought (t0.extract a b) x (by rw [ByteArray.size_extract]; unfold maxLen; omega)
  have HT : Hid (∀ x, Grew (w.alloc (.cells #[.int .i64 0, .int .i64 0, .int .i64 0, .int .i64 0, .int .i64 0, .int .i64 0] 121)) x → Tab x) := fun x h => ht.grew (((Grew.refl w).alloc _).trans h)
  clear ht
  go_enter Tryz.func118, Tryz.ntmps118
  go_upto_region 3 with fail
  refine region_heads 20 mixed (by decide) (by kernel_rfl) (by kernel_rfl) (by kernel_rfl) (by kernel_rfl) (frRd t0 w.heap.size) dRd (Grew (w.alloc (.cells #[.int .i64 0, .int .i64 0, .int .i64 0, .int .i64 0, .int .i64 0, .int .i64 0] 121))) (GRd t0 w.heap.size) (fun i j hi hj h => dRd_ne hi hj h) ?put (fun _ => undef) rfl ?hS ?step ?done
  case put =>
    intro i o hi ho t v
    rcases (show i = 0 ∨ i = 1 ∨ i = 2 ∨ i = 3 ∨ i = 4 ∨ i = 5 ∨ i = 6 ∨ i = 7 ∨ i = 8 ∨ i = 9 ∨ i = 10 ∨ i = 11 ∨ i = 12 ∨ i = 13 ∨ i = 14 ∨ i = 15 ∨ i = 16 ∨ i = 17 ∨ i = 18 ∨ i = 19 by omega) with rfl | rfl | rfl | rfl | rfl | rfl | rfl | rfl | rfl | rfl | rfl | rfl | rfl | rfl | rfl | rfl | rfl | rfl | rfl | rfl
    all_goals
      obtain rfl := Option.some.inj ho
      rfl
  case step =>
    intro i o hi ho t x hS hdep K hK
    rcases (show i = 0 ∨ i = 1 ∨ i = 2 ∨ i = 3 ∨ i = 4 ∨ i = 5 ∨ i = 6 ∨ i = 7 ∨ i = 8 ∨ i = 9 ∨ i = 10 ∨ i = 11 ∨ i = 12 ∨ i = 13 ∨ i = 14 ∨ i = 15 ∨ i = 16 ∨ i = 17 ∨ i = 18 ∨ i = 19 by omega) with rfl | rfl | rfl | rfl | rfl | rfl | rfl | rfl | rfl | rfl | rfl | rfl | rfl | rfl | rfl | rfl | rfl | rfl | rfl | rfl
    all_goals obtain rfl := Option.some.inj ho
    · have HK : Hid (K ((frRd t0 w.heap.size t).put (some 9) (.string t0)) x) := hK _ _ hS (fun j u hj hne h => h) rfl
      have h2 := HK.out
      unfold frRd at h2 ⊢
      go_simp
      simpa [Act.put, Act.put] using h2
    · have e0 : t 9 = (.string t0) := hdep { on := 0, ground := Ground.data } (by simp) rfl
      have HK : Hid (K ((frRd t0 w.heap.size t).put (some 10) (.string (t0.extract 12 16))) x) := hK _ _ hS (fun j u hj hne h => h) rfl
      have h2 := HK.out
      unfold frRd at h2 ⊢
      go_simp
      simpa [Act.put, e0, hz] using h2
    · have e1 : t 10 = (.string (t0.extract 12 16)) := hdep { on := 1, ground := Ground.data } (by simp) rfl
      refine step_call1 rfl 139 (.tmp 10) _ rfl (.string (t0.extract 12 16)) e1 (Go.Proofs.enters_of Tryz.func139 (by kernel_rfl) rfl _) (fun v y => v = (.int .i64 (numV 10 15 (t0.extract 12 16))) ∧ Grew x y) ((hd 12 16 x).mono ?_) ?_
      · rintro e y ⟨h0, h1⟩
        exact ⟨_, h0, rfl, h1⟩
      · rintro v y ⟨h0, h1⟩
        exact hK v y (hS.trans h1) (fun j u hj hne h => GRd.keep t0 w.heap.size h1 j u hj h) h0
    · have HK : Hid (K ((frRd t0 w.heap.size t).put (some 12) (.string t0)) x) := hK _ _ hS (fun j u hj hne h => h) rfl
      have h2 := HK.out
      unfold frRd at h2 ⊢
      go_simp
      simpa [Act.put, Act.put] using h2
    · have e3 : t 12 = (.string t0) := hdep { on := 3, ground := Ground.data } (by simp) rfl
      have HK : Hid (K ((frRd t0 w.heap.size t).put (some 13) (.string (t0.extract 8 11))) x) := hK _ _ hS (fun j u hj hne h => h) rfl
      have h2 := HK.out
      unfold frRd at h2 ⊢
      go_simp
      simpa [Act.put, e3, hz] using h2
    · have e4 : t 13 = (.string (t0.extract 8 11)) := hdep { on := 4, ground := Ground.data } (by simp) rfl
      refine step_call1 rfl 140 (.tmp 13) _ rfl (.string (t0.extract 8 11)) e4 (Go.Proofs.enters_of Tryz.func140 (by kernel_rfl) rfl _) (fun v y => v = (.int .i64 (monV (t0.extract 8 11))) ∧ Grew x y) ((monNamed (t0.extract 8 11) x).mono ?_) ?_
      · rintro e y ⟨h0, h1⟩
        exact ⟨_, h0, rfl, h1⟩
      · rintro v y ⟨h0, h1⟩
        exact hK v y (hS.trans h1) (fun j u hj hne h => GRd.keep t0 w.heap.size h1 j u hj h) h0
    · have HK : Hid (K ((frRd t0 w.heap.size t).put (some 15) (.string t0)) x) := hK _ _ hS (fun j u hj hne h => h) rfl
      have h2 := HK.out
      unfold frRd at h2 ⊢
      go_simp
      simpa [Act.put, Act.put] using h2
    · have e6 : t 15 = (.string t0) := hdep { on := 6, ground := Ground.data } (by simp) rfl
      have HK : Hid (K ((frRd t0 w.heap.size t).put (some 16) (.string (t0.extract 5 7))) x) := hK _ _ hS (fun j u hj hne h => h) rfl
      have h2 := HK.out
      unfold frRd at h2 ⊢
      go_simp
      simpa [Act.put, e6, hz] using h2
    · have e7 : t 16 = (.string (t0.extract 5 7)) := hdep { on := 7, ground := Ground.data } (by simp) rfl
      refine step_call1 rfl 139 (.tmp 16) _ rfl (.string (t0.extract 5 7)) e7 (Go.Proofs.enters_of Tryz.func139 (by kernel_rfl) rfl _) (fun v y => v = (.int .i64 (numV 10 15 (t0.extract 5 7))) ∧ Grew x y) ((hd 5 7 x).mono ?_) ?_
      · rintro e y ⟨h0, h1⟩
        exact ⟨_, h0, rfl, h1⟩
      · rintro v y ⟨h0, h1⟩
        exact hK v y (hS.trans h1) (fun j u hj hne h => GRd.keep t0 w.heap.size h1 j u hj h) h0
    · have HK : Hid (K ((frRd t0 w.heap.size t).put (some 18) (.string t0)) x) := hK _ _ hS (fun j u hj hne h => h) rfl
      have h2 := HK.out
      unfold frRd at h2 ⊢
      go_simp
      simpa [Act.put, Act.put] using h2
    · have e9 : t 18 = (.string t0) := hdep { on := 9, ground := Ground.data } (by simp) rfl
      have HK : Hid (K ((frRd t0 w.heap.size t).put (some 19) (.string (t0.extract 17 19))) x) := hK _ _ hS (fun j u hj hne h => h) rfl
      have h2 := HK.out
      unfold frRd at h2 ⊢
      go_simp
      simpa [Act.put, e9, hz] using h2
    · have e10 : t 19 = (.string (t0.extract 17 19)) := hdep { on := 10, ground := Ground.data } (by simp) rfl
      refine step_call1 rfl 139 (.tmp 19) _ rfl (.string (t0.extract 17 19)) e10 (Go.Proofs.enters_of Tryz.func139 (by kernel_rfl) rfl _) (fun v y => v = (.int .i64 (numV 10 15 (t0.extract 17 19))) ∧ Grew x y) ((hd 17 19 x).mono ?_) ?_
      · rintro e y ⟨h0, h1⟩
        exact ⟨_, h0, rfl, h1⟩
      · rintro v y ⟨h0, h1⟩
        exact hK v y (hS.trans h1) (fun j u hj hne h => GRd.keep t0 w.heap.size h1 j u hj h) h0
    · have HK : Hid (K ((frRd t0 w.heap.size t).put (some 21) (.string t0)) x) := hK _ _ hS (fun j u hj hne h => h) rfl
      have h2 := HK.out
      unfold frRd at h2 ⊢
      go_simp
      simpa [Act.put, Act.put] using h2
    · have e12 : t 21 = (.string t0) := hdep { on := 12, ground := Ground.data } (by simp) rfl
      have HK : Hid (K ((frRd t0 w.heap.size t).put (some 22) (.string (t0.extract 20 22))) x) := hK _ _ hS (fun j u hj hne h => h) rfl
      have h2 := HK.out
      unfold frRd at h2 ⊢
      go_simp
      simpa [Act.put, e12, hz] using h2
    · have e13 : t 22 = (.string (t0.extract 20 22)) := hdep { on := 13, ground := Ground.data } (by simp) rfl
      refine step_call1 rfl 139 (.tmp 22) _ rfl (.string (t0.extract 20 22)) e13 (Go.Proofs.enters_of Tryz.func139 (by kernel_rfl) rfl _) (fun v y => v = (.int .i64 (numV 10 15 (t0.extract 20 22))) ∧ Grew x y) ((hd 20 22 x).mono ?_) ?_
      · rintro e y ⟨h0, h1⟩
        exact ⟨_, h0, rfl, h1⟩
      · rintro v y ⟨h0, h1⟩
        exact hK v y (hS.trans h1) (fun j u hj hne h => GRd.keep t0 w.heap.size h1 j u hj h) h0
    · have HK : Hid (K ((frRd t0 w.heap.size t).put (some 24) (.string t0)) x) := hK _ _ hS (fun j u hj hne h => h) rfl
      have h2 := HK.out
      unfold frRd at h2 ⊢
      go_simp
      simpa [Act.put, Act.put] using h2
    · have e15 : t 24 = (.string t0) := hdep { on := 15, ground := Ground.data } (by simp) rfl
      have HK : Hid (K ((frRd t0 w.heap.size t).put (some 25) (.string (t0.extract 23 25))) x) := hK _ _ hS (fun j u hj hne h => h) rfl
      have h2 := HK.out
      unfold frRd at h2 ⊢
      go_simp
      simpa [Act.put, e15, hz] using h2
    · have e16 : t 25 = (.string (t0.extract 23 25)) := hdep { on := 16, ground := Ground.data } (by simp) rfl
      refine step_call1 rfl 139 (.tmp 25) _ rfl (.string (t0.extract 23 25)) e16 (Go.Proofs.enters_of Tryz.func139 (by kernel_rfl) rfl _) (fun v y => v = (.int .i64 (numV 10 15 (t0.extract 23 25))) ∧ Grew x y) ((hd 23 25 x).mono ?_) ?_
      · rintro e y ⟨h0, h1⟩
        exact ⟨_, h0, rfl, h1⟩
      · rintro v y ⟨h0, h1⟩
        exact hK v y (hS.trans h1) (fun j u hj hne h => GRd.keep t0 w.heap.size h1 j u hj h) h0
    · have e2 : t 11 = (.int .i64 (numV 10 15 (t0.extract 12 16))) := hdep { on := 2, ground := Ground.data } (by simp) rfl
      have e5 : t 14 = (.int .i64 (monV (t0.extract 8 11))) := hdep { on := 5, ground := Ground.data } (by simp) rfl
      have e8 : t 17 = (.int .i64 (numV 10 15 (t0.extract 5 7))) := hdep { on := 8, ground := Ground.data } (by simp) rfl
      have e11 : t 20 = (.int .i64 (numV 10 15 (t0.extract 17 19))) := hdep { on := 11, ground := Ground.data } (by simp) rfl
      have e14 : t 23 = (.int .i64 (numV 10 15 (t0.extract 20 22))) := hdep { on := 14, ground := Ground.data } (by simp) rfl
      have e17 : t 26 = (.int .i64 (numV 10 15 (t0.extract 23 25))) := hdep { on := 17, ground := Ground.data } (by simp) rfl
      have HK : Hid (K ((frRd t0 w.heap.size t).put (some 27) (.agg #[.int .i64 (numV 10 15 (t0.extract 12 16)), .int .i64 (monV (t0.extract 8 11)), .int .i64 (numV 10 15 (t0.extract 5 7)), .int .i64 (numV 10 15 (t0.extract 17 19)), .int .i64 (numV 10 15 (t0.extract 20 22)), .int .i64 (numV 10 15 (t0.extract 23 25))])) x) := hK _ _ hS (fun j u hj hne h => h) rfl
      have h2 := HK.out
      unfold frRd at h2 ⊢
      go_simp
      simpa [Act.put, e2, e5, e8, e11, e14, e17] using h2
    · have hba : Grew x (x.alloc (.cells #[.int .i64 0, .int .i64 0, .int .i64 0, .int .i64 0, .int .i64 0, .int .i64 0] 121)) := (Grew.refl x).alloc _
      have hxs : w.heap.size < x.heap.size := by have := hS.low.size; simp at this; omega
      have HK : Hid (K ((frRd t0 w.heap.size t).put (some 4) (.pointer (some ⟨x.heap.size, 0, none⟩))) (x.alloc (.cells #[.int .i64 0, .int .i64 0, .int .i64 0, .int .i64 0, .int .i64 0, .int .i64 0] 121))) := hK _ _ (hS.trans hba) (fun j u hj hne h => GRd.keep t0 w.heap.size hba j u hj h) ⟨x.heap.size, rfl, Zb.of (t := 121) (Grew.refl _), hxs⟩
      unfold frRd
      go_simp
      exact HK.out
  case hS => exact (Grew.refl _).drew
  case done =>
    intro t x hS hG
    have e27 : t 27 = (.agg #[.int .i64 (numV 10 15 (t0.extract 12 16)), .int .i64 (monV (t0.extract 8 11)), .int .i64 (numV 10 15 (t0.extract 5 7)), .int .i64 (numV 10 15 (t0.extract 17 19)), .int .i64 (numV 10 15 (t0.extract 20 22)), .int .i64 (numV 10 15 (t0.extract 23 25))]) := hG 18 (by decide)
    obtain ⟨g, e4, hZ, hgn⟩ : ∃ g, t 4 = .pointer (some ⟨g, 0, none⟩) ∧ Zb x g ∧ w.heap.size < g := hG 19 (by decide)
    have hD0 := hZ.puts ((numV 10 15 (t0.extract 12 16))) ((monV (t0.extract 8 11))) ((numV 10 15 (t0.extract 5 7))) ((numV 10 15 (t0.extract 17 19))) ((numV 10 15 (t0.extract 20 22))) ((numV 10 15 (t0.extract 23 25)))
    have G0 := Grew.puts (g := g) (show Grew _ x from hS) (by simp; omega) (.int .i64 (numV 10 15 (t0.extract 12 16))) (.int .i64 (monV (t0.extract 8 11))) (.int .i64 (numV 10 15 (t0.extract 5 7))) (.int .i64 (numV 10 15 (t0.extract 17 19))) (.int .i64 (numV 10 15 (t0.extract 20 22))) (.int .i64 (numV 10 15 (t0.extract 23 25)))
    obtain ⟨⟨_, c0, c1, c2, c3, c4, c5⟩, hf⟩ := hZ
    have f0 := hf 0
    have f1 := hf 1
    have f2 := hf 2
    have f3 := hf 3
    have f4 := hf 4
    have f5 := hf 5
    clear hf hG hS
    show wpList Tryz.prog _ _ [_] _ x
    unfold frRd
    rw [e27, e4]
    clear e27 e4
    go_upto_region 4 with fail
    have hD : Dt _ g _ _ _ _ _ _ := hD0
    have G2 := G0
    clear hD0 G0 c0 c1 c2 c3 c4 c5 f0 f1 f2 f3 f4 f5
    generalize hX : ((((((x.setCell ⟨g, 0, none⟩ (.int .i64 (numV 10 15 (t0.extract 12 16)))).setCell ⟨g, 1, none⟩ (.int .i64 (monV (t0.extract 8 11)))).setCell ⟨g, 2, none⟩ (.int .i64 (numV 10 15 (t0.extract 5 7)))).setCell ⟨g, 3, none⟩ (.int .i64 (numV 10 15 (t0.extract 17 19)))).setCell ⟨g, 4, none⟩ (.int .i64 (numV 10 15 (t0.extract 20 22)))).setCell ⟨g, 5, none⟩ (.int .i64 (numV 10 15 (t0.extract 23 25)))) = wx at hD G2 ⊢
    clear hX
    have HP : Hid (∀ y m d h i s : Int, okD y m d h i s → showA y m d h i s = t0 → (numV 10 15 (t0.extract 12 16)) = y ∧ (monV (t0.extract 8 11)) = m ∧ (numV 10 15 (t0.extract 5 7)) = d ∧ (numV 10 15 (t0.extract 17 19)) = h ∧ (numV 10 15 (t0.extract 20 22)) = i ∧ (numV 10 15 (t0.extract 23 25)) = s) := fun y m d h i s ok e => by
      obtain ⟨a1, a2, a3, a4, a5, a6, _⟩ := parts_of ok e
      exact ⟨a1, a2, a3, a4, a5, a6⟩
    generalize numV 10 15 (t0.extract 12 16) = y at hD HP
    generalize monV (t0.extract 8 11) = m at hD HP
    generalize numV 10 15 (t0.extract 5 7) = d at hD HP
    generalize numV 10 15 (t0.extract 17 19) = h at hD HP
    generalize numV 10 15 (t0.extract 20 22) = i at hD HP
    generalize numV 10 15 (t0.extract 23 25) = s at hD HP
    have k := hD
    obtain ⟨_, k0, k1, k2, k3, k4, k5⟩ := k
    have HZ : Hid (t0.size = 29) := hz
    clear hd
    by_cases he : showV y m d h i s = t0
    · have hq := bytes_eq he
      have HE : Hid (okD y m d h i s ∧ showA y m d h i s = t0) := showV_full hz he
      clear he hz
      go_wp2_with (go_at_call 141; refine (implShow _ _ _ _ _ _ _ (HT.out _ G2)).mono ?_; rintro e x3 ⟨rfl, hb3⟩; have D3 := hD.grew hb3; obtain ⟨_, q0, q1, q2, q3, q4, q5⟩ := D3; have G3 := G2.trans hb3; obtain ⟨r0, r1, r2, r3, r4, r5⟩ := boxCells G3; have f0 := boxFree G3 0; have f1 := boxFree G3 1; have f2 := boxFree G3 2; have f3 := boxFree G3 3; have f4 := boxFree G3 4; have f5 := boxFree G3 5; clear hb3)
      refine bodyPost_ret (v := .tuple #[.agg #[.int .i64 y, .int .i64 m, .int .i64 d, .int .i64 h, .int .i64 i, .int .i64 s], .bool true]) (by simp [results, Tryz.results118, go_sem, r0, r1, r2, r3, r4, r5]) rfl ⟨⟨_, rfl, .inl ⟨y, m, d, h, i, s, HE.out.1, HE.out.2, rfl⟩⟩, ?_⟩
      exact Grew.puts (((Grew.refl w).alloc _).trans G3) (Nat.le_refl _) _ _ _ _ _ _
    · have hq := bytes_ne he
      have HE : Hid (∀ y m d h i s : Int, okD y m d h i s → showA y m d h i s ≠ t0) := fun y' m' d' h' i' s' ok' e' => by
        obtain ⟨rfl, rfl, rfl, rfl, rfl, rfl⟩ := HP.out y' m' d' h' i' s' ok' e'
        exact he ((showV_of ok').trans e')
      clear he hz
      go_wp2_with (go_at_call 141; refine (implShow _ _ _ _ _ _ _ (HT.out _ G2)).mono ?_; rintro e x3 ⟨rfl, hb3⟩; have G3 := G2.trans hb3; obtain ⟨r0, r1, r2, r3, r4, r5⟩ := boxCells G3; have f0 := boxFree G3 0; have f1 := boxFree G3 1; have f2 := boxFree G3 2; have f3 := boxFree G3 3; have f4 := boxFree G3 4; have f5 := boxFree G3 5; clear hb3)
      refine bodyPost_ret (v := .tuple #[.agg #[.int .i64 0, .int .i64 0, .int .i64 0, .int .i64 0, .int .i64 0, .int .i64 0], .bool false]) (by simp [results, Tryz.results118, go_sem, r0, r1, r2, r3, r4, r5]) rfl ⟨⟨_, rfl, .inr ⟨HE.out, rfl⟩⟩, ?_⟩
      exact Grew.puts (((Grew.refl w).alloc _).trans G3) (Nat.le_refl _) _ _ _ _ _ _

theorem implRead_o (t : ByteArray) (w : World) (hm : t.size ≤ maxLen) (hz : t.size ≠ 29) :
    Calls Tryz.prog 118 #[.string t] w fun e w' => (∃ v, e = .returned v ∧ ReadIs t v) ∧ Grew w w' := by
  have hm2 := hm
  unfold maxLen at hm2
  have HE : Hid (∀ y m d h i s : Int, okD y m d h i s → showA y m d h i s ≠ t) := fun y m d h i s _ e => hz (by rw [← e]; exact showA_size y m d h i s)
  go_enter Tryz.func118, Tryz.ntmps118
  go_wp2
  refine bodyPost_ret (v := .tuple #[.agg #[.int .i64 0, .int .i64 0, .int .i64 0, .int .i64 0, .int .i64 0, .int .i64 0], .bool false]) (by simp [results, Tryz.results118, go_sem]) rfl ⟨⟨_, rfl, .inr ⟨HE.out, rfl⟩⟩, (Grew.refl w).alloc _⟩
theorem implRead (t : ByteArray) (w : World) (ht : Tab w) (hm : t.size ≤ maxLen) :
    Calls Tryz.prog 118 #[.string t] w fun e w' => (∃ v, e = .returned v ∧ ReadIs t v) ∧ Grew w w' := by
  by_cases hz : t.size = 29
  · exact implRead_x t w ht hz
  · exact implRead_o t w hm hz
end Go.Proofs.YtkaogmdhjcgcdaaGreatDoor.Dd
namespace Go.Proofs.YtkaogmdhjcgcdaaGreatDoor
open Go.RowKit
theorem implSta (x : Int) (w : World) :
    Calls Tryz.prog 95 #[.int .i64 x] w fun e w' => e = .returned (.bool (decide (200 ≤ x ∧ x ≤ 599))) ∧ w = w' := by
  obtain ⟨b, hb⟩ : ∃ b, decide (200 ≤ x ∧ x ≤ 599) = b := ⟨_, rfl⟩
  rw [hb]
  by_cases h1 : 200 ≤ x
  · have H0 : Hid (decide (x ≤ 599) = b) := by show decide (x ≤ 599) = b; rw [← hb]; simp [h1]
    have d1 : decide (200 ≤ x) = true := by simpa using h1
    clear hb
    go_enter Tryz.func95, Tryz.ntmps95
    go_wp2
    go_ret
    exact ⟨ret_bool H0.out, rfl⟩
  · have H0 : Hid (false = b) := by show false = b; rw [← hb]; simp [h1]
    have d1 : decide (200 ≤ x) = false := by simpa using h1
    clear hb
    go_enter Tryz.func95, Tryz.ntmps95
    go_wp2
    go_ret
    exact ⟨ret_bool H0.out, rfl⟩
theorem implBare (s : Int) (w : World) :
    Calls Tryz.prog 94 #[.int .i64 s] w fun e w' => e = .returned (.bool (bareB s)) ∧ w = w' := by
  by_cases h1 : s = 204
  · subst h1
    have H0 : Hid (true = bareB 204) := rfl
    go_enter Tryz.func94, Tryz.ntmps94
    go_wp2
    go_ret
    exact ⟨ret_bool H0.out, rfl⟩
  · have d1 : (s == 204) = false := by simp [h1]
    by_cases h2 : s = 304
    · subst h2
      have H0 : Hid (true = bareB 304) := rfl
      go_enter Tryz.func94, Tryz.ntmps94
      go_wp2
      go_ret
      exact ⟨ret_bool H0.out, rfl⟩
    · have d2 : (s == 304) = false := by simp [h2]
      have H0 : Hid (false = bareB s) := by show false = bareB s; unfold bareB; simp [h1, h2]
      go_enter Tryz.func94, Tryz.ntmps94
      go_wp2
      go_ret
      exact ⟨ret_bool H0.out, rfl⟩

/-! ### Where it ends -/
theorem fold_void (n : ByteArray) : ∀ (l : List Fl) (p : ByteArray × Bool), (l.foldl (gStep n) p).2 = false → l.foldl (gStep n) p = p
  | [], _, _ => rfl
  | f :: l, p, h => by
    rw [List.foldl_cons] at h ⊢
    have e := fold_void n l _ h
    rw [e] at h ⊢
    unfold gStep at h ⊢
    split
    · rename_i hh; rw [if_pos hh] at h; cases h
    · rfl
theorem getF_void {l : List Fl} {n : ByteArray} (h : (getF l n).2 = false) : (getF l n).1 = ⟨#[]⟩ := by
  have := fold_void n l _ h
  unfold getF
  rw [this]
theorem low_void : lowS ⟨#[]⟩ = ⟨#[]⟩ := rfl
theorem void_ch : ¬ lowS ⟨#[]⟩ = chS := by rw [low_void]; intro e; have := congrArg ByteArray.size e; revert this; decide
theorem num_void : numOk 10 15 ⟨#[]⟩ = false := by decide +kernel
set_option maxHeartbeats 1000000 in
theorem implFrm (v : Value) (l : List Fl) (w : World) (h : Fits w v l) :
    Calls Tryz.prog 124 #[v] w fun e w' => e = .returned (frmE (frm l)) ∧ Below w.heap.size w w' := by
  have hz := h.2.1
  obtain ⟨a, cap, rfl, hcap⟩ := h.1
  have HF : Hid (Fits w (.slice a l.length cap) l) := h
  clear h hcap
  cases hok : fldsOk l with
  | false =>
    have H0 : Hid ((3, 0) = frm l) := frm_bad hok
    go_enter Tryz.func124, Tryz.ntmps124
    go_wp2_with (go_at_call 60; refine (implOk _ l _ HF.out.1 hz).mono ?_; rw [hok]; rintro e w1 ⟨rfl, hb1⟩)
    go_ret2
    exact ⟨ret_frm H0.out, hb1⟩
  | true =>
    have F0 := @frm_neither l hok
    have F1 := @frm_both l hok
    have F2 := @frm_len l hok
    have F3 := @frm_nolen l hok
    have F4 := @frm_ch l hok
    have F5 := @frm_noch l hok
    have zx := getF_fits clS hok
    have zy := getF_fits teS hok
    have vx : (getF l clS).2 = false → (getF l clS).1 = ⟨#[]⟩ := getF_void
    have vy : (getF l teS).2 = false → (getF l teS).1 = ⟨#[]⟩ := getF_void
    have hg1 : Hid (∀ w, Fits w (.slice a l.length cap) l → Calls Tryz.prog 103 #[.slice a l.length cap, .string clS] w fun e w' => e = .returned (.tuple #[.string (getF l clS).1, .bool (getF l clS).2]) ∧ Below w.heap.size w w') := fun w h => by have := implGet _ l clS w h.1 h.2.1 (by decide); unfold getE at this; rw [← getA_yes clS hok] at this; exact this
    have hg2 : Hid (∀ w, Fits w (.slice a l.length cap) l → Calls Tryz.prog 103 #[.slice a l.length cap, .string teS] w fun e w' => e = .returned (.tuple #[.string (getF l teS).1, .bool (getF l teS).2]) ∧ Below w.heap.size w w') := fun w h => by have := implGet _ l teS w h.1 h.2.1 (by decide); unfold getE at this; rw [← getA_yes teS hok] at this; exact this
    generalize frm l = fr at F0 F1 F2 F3 F4 F5 ⊢
    generalize getF l clS = gx at F0 F1 F2 F3 F4 F5 zx vx hg1
    generalize getF l teS = gy at F0 F1 F2 F3 F4 F5 zy vy hg2
    obtain ⟨x, p⟩ := gx
    obtain ⟨y, q⟩ := gy
    simp only at F0 F1 F2 F3 F4 F5 zx zy vx vy hg1 hg2
    have G0 : Hid _ := F0
    have G1 : Hid _ := F1
    have G2 : Hid _ := F2
    have G3 : Hid _ := F3
    have G4 : Hid _ := F4
    have G5 : Hid _ := F5
    have VX : Hid (p = false → x = ⟨#[]⟩) := vx
    have VY : Hid (q = false → y = ⟨#[]⟩) := vy
    clear F0 F1 F2 F3 F4 F5 vx vy
    unfold clS at hg1
    unfold teS at hg2
    go_enter Tryz.func124, Tryz.ntmps124
    go_wp2_with fail
    refine (implOk _ l _ HF.out.1 hz).mono ?_
    rw [hok]
    rintro e w1 ⟨rfl, hb1⟩
    have HF1 : Hid (Fits w1 (.slice a l.length cap) l) := HF.out.kept hb1
    clear HF
    go_wp2_with fail
    refine (hg1.out _ HF1.out).mono ?_
    rintro e w2 ⟨rfl, hb2'⟩
    have hb2 := past6 hb1 hb2'
    have HF2 : Hid (Fits w2 (.slice a l.length cap) l) := HF1.out.kept hb2'
    clear hb1 hb2' hg1 HF1
    go_wp2_with fail
    refine (hg2.out _ HF2.out).mono ?_
    rintro e w3 ⟨rfl, hb3'⟩
    have hb3 := past6 hb2 hb3'
    clear hb2 hb3' hg2 HF2
    go_wp2_with fail
    refine (implDig x _ (le_max (by omega))).mono ?_
    unfold numE
    rintro e w4 ⟨rfl, hb4'⟩
    have hb4 : Below w.heap.size w w4 := past6 hb3 hb4'
    clear hb3 hb4'
    cases p with
    | false =>
      cases q with
      | false =>
        have H0 : Hid ((0, 0) = fr) := G0.out rfl rfl
        clear G0 G1 G2 G3 G4 G5
        go_wp2
        go_ret2
        exact ⟨ret_frm H0.out, hb4⟩
      | true =>
        have hn0 : numOk 10 15 x = false := by rw [VX.out rfl]; exact num_void
        rw [hn0]
        generalize numV 10 15 x = n0
        clear hn0
        by_cases hc : lowS y = chS
        · have H0 : Hid ((2, 0) = fr) := G4.out rfl rfl hc
          have hq := same_ch (same_yes hc)
          clear G0 G1 G2 G3 G4 G5 hc
          go_wp2_with (go_at_call 129; refine (implLow y _ (le_max (by omega))).mono ?_; rintro e w5 ⟨rfl, hb5⟩)
          go_ret2
          exact ⟨ret_frm H0.out, past6 hb4 hb5⟩
        · have H0 : Hid ((3, 0) = fr) := G5.out rfl rfl hc
          have hq := same_ch (same_no hc)
          clear G0 G1 G2 G3 G4 G5 hc
          go_wp2_with (go_at_call 129; refine (implLow y _ (le_max (by omega))).mono ?_; rintro e w5 ⟨rfl, hb5⟩)
          go_ret2
          exact ⟨ret_frm H0.out, past6 hb4 hb5⟩
    | true =>
      cases q with
      | true =>
        have H0 : Hid ((3, 0) = fr) := G1.out rfl rfl
        clear G0 G1 G2 G3 G4 G5
        go_wp2
        go_ret2
        exact ⟨ret_frm H0.out, hb4⟩
      | false =>
        have g2 := G2.out rfl rfl
        have g3 := G3.out rfl rfl
        have hy : Hid (y = ⟨#[]⟩) := VY.out rfl
        have hq : ((lowS y).toList == [99, 104, 117, 110, 107, 101, 100]) = false := by rw [hy.out]; exact same_ch (same_no void_ch)
        generalize numV 10 15 x = n at g2 g3 ⊢
        generalize numOk 10 15 x = o at g2 g3 ⊢
        clear G0 G1 G2 G3 G4 G5
        cases o with
        | false =>
          have H0 : Hid ((3, 0) = fr) := g3 (by simp)
          clear g2 g3
          go_wp2_with (go_at_call 129; refine (implLow y _ (le_max (by omega))).mono ?_; rintro e w5 ⟨rfl, hb5⟩)
          go_ret2
          exact ⟨ret_frm H0.out, past6 hb4 hb5⟩
        | true =>
          by_cases hn : n ≤ 4000
          · have H0 : Hid ((1, n) = fr) := g2 ⟨rfl, hn⟩
            have d1 : decide (n ≤ 4000) = true := by simpa using hn
            clear g2 g3
            go_wp2
            go_ret2
            exact ⟨ret_frm H0.out, hb4⟩
          · have H0 : Hid ((3, 0) = fr) := g3 (by simp [hn])
            have d1 : decide (n ≤ 4000) = false := by simpa using hn
            clear g2 g3
            go_wp2_with (go_at_call 129; refine (implLow y _ (le_max (by omega))).mono ?_; rintro e w5 ⟨rfl, hb5⟩)
            go_ret2
            exact ⟨ret_frm H0.out, past6 hb4 hb5⟩
theorem own_frm (l : List Fl) : ((frm l).1 == 0) = ownB l := by
  unfold ownB frm
  cases fldsOk l with
  | false => rfl
  | true =>
    rw [if_pos rfl]
    cases (getF l clS).2 with
    | true =>
      rw [if_pos rfl]
      split
      · rfl
      · split <;> rfl
    | false =>
      rw [if_neg (by decide)]
      cases (getF l teS).2 with
      | true => rw [if_pos rfl]; split <;> rfl
      | false => rw [if_neg (by decide)]; rfl
theorem implUnf (v : Value) (l : List Fl) (w : World) (h : Fits w v l) :
    Calls Tryz.prog 96 #[v] w fun e w' => e = .returned (.bool (ownB l)) ∧ Below w.heap.size w w' := by
  have hf := implFrm v l w h
  have H0 : Hid (((frm l).1 == 0) = ownB l) := own_frm l
  obtain ⟨a, cap, rfl, hcap⟩ := h.1
  clear hcap h
  unfold frmE at hf
  generalize frm l = fr at hf H0
  obtain ⟨k, n⟩ := fr
  simp only at hf H0
  go_enter Tryz.func96, Tryz.ntmps96
  go_wp2_with (go_at_call 124; refine hf.mono ?_; rintro e w1 ⟨rfl, hb1⟩)
  go_ret
  exact ⟨ret_bool H0.out, hb1⟩
theorem rsOk_bad {r : Rs} (h4 : bareB r.s = true) (h5 : ¬ r.b.size = 0) : false = rsOk r := by unfold rsOk; rw [h4, decide_eq_false h5]; simp
theorem rsOk_is2 {r : Rs} (h : decide (200 ≤ r.s ∧ r.s ≤ 599) = true) (h2 : ownB r.l = true) (h4 : bareB r.s = false ∨ r.b.size = 0) : decide ((r.b.size : Int) ≤ 4000) = rsOk r := by
  unfold rsOk
  rw [h, h2]
  have e : (!bareB r.s || decide (r.b.size = 0)) = true := by rcases h4 with h4 | h4 <;> simp [h4]
  rw [e]
  by_cases hb : r.b.size ≤ 4000
  · rw [decide_eq_true hb, decide_eq_true (by omega)]; rfl
  · rw [decide_eq_false hb, decide_eq_false (by omega)]; rfl
set_option maxHeartbeats 1000000 in
theorem implRsOk_tail (r : Rs) (v : Value) (w : World) (h : RsIn w v r) (h4 : bareB r.s = false ∨ r.b.size = 0) :
    Calls Tryz.prog 56 #[rsV r v] w fun e w' => e = .returned (.bool (rsOk r)) ∧ Below w.heap.size w w' := by
  obtain ⟨hf, z3⟩ := h
  have hfs := hf.1
  obtain ⟨a, cap, rfl, hcap⟩ := hfs
  clear hcap
  unfold rsV
  have F0 : Hid (Fits (w.alloc (.cells #[.int .i64 r.s, .slice a r.l.length cap, .string r.b] 26)) (.slice a r.l.length cap) r.l) := hf.alloc _
  have Q0 : Hid (RsB (w.alloc (.cells #[.int .i64 r.s, .slice a r.l.length cap, .string r.b] 26)) w.heap.size r (.slice a r.l.length cap)) := RsB.new w r _ _
  have B0 : Hid (Below w.heap.size w (w.alloc (.cells #[.int .i64 r.s, .slice a r.l.length cap, .string r.b] 26))) := (Below.refl _ w).alloc (Nat.le_refl _) _
  clear hf
  have hq1 : r.b.size ≤ 9223372036854775807 := by omega
  have H4 : Hid (bareB r.s = false ∨ r.b.size = 0) := h4
  have hbe : bareB r.s = true → r.b.toList.isEmpty = true := fun hb => by rw [void_emp]; rcases h4 with h4 | h4; · rw [h4] at hb; cases hb
                                                                          · exact decide_eq_true h4
  clear h4
  go_enter Tryz.func56, Tryz.ntmps56
  go_wp2_with fail
  refine (implBare _ _).mono ?_
  rintro e w1 ⟨rfl, rfl⟩
  cases hba : bareB r.s with
  | true =>
    have hb1 := hbe hba
    have hb2 : r.b.toList = [] := by simpa using hb1
    clear hbe
    go_wp2_with fail
    refine (implSta _ _).mono ?_
    rintro e w1 ⟨rfl, rfl⟩
    clear hb1 hb2
    cases h1 : decide (200 ≤ r.s ∧ r.s ≤ 599) with
    | false =>
      have H0 : Hid (false = rsOk r) := rsOk_no1 h1
      go_wp2
      go_ret
      exact ⟨ret_bool H0.out, B0.out⟩
    | true =>
      go_wp2_with fail
      refine (implUnf _ r.l _ F0.out).mono ?_
      rintro e w2 ⟨rfl, hb2⟩
      have Q2 : Hid (RsB w2 w.heap.size r (.slice a r.l.length cap)) := Q0.out.next hb2
      have B2 : Hid (Below w.heap.size w w2) := past6 B0.out hb2
      clear Q0 B0 F0 hb2
      have a2 := Q2.out.c2
      cases h2 : ownB r.l with
      | false =>
        have H0 : Hid (false = rsOk r) := rsOk_no2 h1 h2
        go_wp2
        go_ret
        exact ⟨ret_bool H0.out, B2.out⟩
      | true =>
        have H0 : Hid (decide ((r.b.size : Int) ≤ 4000) = rsOk r) := rsOk_is2 h1 h2 H4.out
        go_wp2
        go_ret
        exact ⟨ret_bool H0.out, B2.out⟩
  | false =>
    clear hbe
    go_wp2_with fail
    refine (implSta _ _).mono ?_
    rintro e w1 ⟨rfl, rfl⟩
    cases h1 : decide (200 ≤ r.s ∧ r.s ≤ 599) with
    | false =>
      have H0 : Hid (false = rsOk r) := rsOk_no1 h1
      go_wp2
      go_ret
      exact ⟨ret_bool H0.out, B0.out⟩
    | true =>
      go_wp2_with fail
      refine (implUnf _ r.l _ F0.out).mono ?_
      rintro e w2 ⟨rfl, hb2⟩
      have Q2 : Hid (RsB w2 w.heap.size r (.slice a r.l.length cap)) := Q0.out.next hb2
      have B2 : Hid (Below w.heap.size w w2) := past6 B0.out hb2
      clear Q0 B0 F0 hb2
      have a2 := Q2.out.c2
      cases h2 : ownB r.l with
      | false =>
        have H0 : Hid (false = rsOk r) := rsOk_no2 h1 h2
        go_wp2
        go_ret
        exact ⟨ret_bool H0.out, B2.out⟩
      | true =>
        have H0 : Hid (decide ((r.b.size : Int) ≤ 4000) = rsOk r) := rsOk_is2 h1 h2 H4.out
        go_wp2
        go_ret
        exact ⟨ret_bool H0.out, B2.out⟩
set_option maxHeartbeats 1000000 in
theorem implRsOk (r : Rs) (v : Value) (w : World) (h : RsIn w v r) :
    Calls Tryz.prog 56 #[rsV r v] w fun e w' => e = .returned (.bool (rsOk r)) ∧ Below w.heap.size w w' := by
  by_cases h4 : bareB r.s = false ∨ r.b.size = 0
  · exact implRsOk_tail r v w h h4
  · have hba : bareB r.s = true := by cases e : bareB r.s with
      | false => exact absurd (.inl e) h4
      | true => rfl
    have hbz : ¬ r.b.size = 0 := fun e => h4 (.inr e)
    have hbe : r.b.toList.isEmpty = false := by rw [void_emp]; exact decide_eq_false hbz
    have hbl : ¬ r.b.toList = [] := by simpa using hbe
    have H0 : Hid (false = rsOk r) := rsOk_bad hba hbz
    obtain ⟨hf, z3⟩ := h
    have hfs := hf.1
    obtain ⟨a, cap, rfl, hcap⟩ := hfs
    clear hcap hf h4 hbz
    unfold rsV
    have Q0 : Hid (RsB (w.alloc (.cells #[.int .i64 r.s, .slice a r.l.length cap, .string r.b] 26)) w.heap.size r (.slice a r.l.length cap)) := RsB.new w r _ _
    have B0 : Hid (Below w.heap.size w (w.alloc (.cells #[.int .i64 r.s, .slice a r.l.length cap, .string r.b] 26))) := (Below.refl _ w).alloc (Nat.le_refl _) _
    go_enter Tryz.func56, Tryz.ntmps56
    go_wp2_with fail
    refine (implBare _ _).mono ?_
    rw [hba]
    rintro e w1 ⟨rfl, rfl⟩
    go_wp2
    go_ret
    exact ⟨ret_bool H0.out, B0.out⟩
end Go.Proofs.YtkaogmdhjcgcdaaGreatDoor
namespace Go.Proofs.YtkaogmdhjcgcdaaGreatDoor
open Go.RowKit Go.Sort
set_option linter.unusedVariables false

set_option maxHeartbeats 1000000 in
theorem implSol (s : ByteArray) (w : World) (hs : s.size ≤ 1048576) :
    Calls Tryz.prog 59 #[.string s, .int .i64 500] w fun e w' => e = .returned (.bool (keyO s)) ∧ w = w' := by
  have HK : Hid (keyO s = (allB keyN s.data.toList && decide (s.size ≤ 500))) := rfl
  generalize keyO s = K at HK ⊢
  by_cases h5 : (500 : Int) < (s.size : Int)
  · have HF : Hid (false = K) := by show _ = _; rw [HK.out, decide_eq_false (by omega), Bool.and_false]
    go_enter Tryz.func59, Tryz.ntmps59
    go_wp2
    go_ret
    exact ⟨ret_bool HF.out, rfl⟩
  · go_enter Tryz.func59, Tryz.ntmps59
    go_wp2
    go_loop [12] (fun i => ∃ k : Nat, k ≤ s.size ∧ i = .int .i64 k ∧ Hid (allB keyN (s.data.toList.take k) = true)) (fun i => s.size - (intOf i).toNat)
    case atStart => exact ⟨0, Nat.zero_le _, rfl, allB_nil _ _⟩
    case round =>
      obtain ⟨k, hk, rfl, ha⟩ := hrel
      by_cases hlt : k < s.size
      · by_cases hl : (s[k].toNat : Int) < 33
        · have HF : Hid (false = K) := by show _ = _; rw [HK.out, ← allB_not (p := keyN) hlt (keyN_no (by omega))]; rfl
          go_wp2
          go_ret
          exact ⟨ret_bool HF.out, rfl⟩
        · by_cases hg : 126 < (s[k].toNat : Int)
          · have HF : Hid (false = K) := by show _ = _; rw [HK.out, ← allB_not (p := keyN) hlt (keyN_no (by omega))]; rfl
            go_wp2
            go_ret
            exact ⟨ret_bool HF.out, rfl⟩
          · have HV : Hid (allB keyN (s.data.toList.take (k + 1)) = true) := allB_step hlt ha.out (keyN_yes (by omega))
            go_wp2
            go_round
            case rel => exact ⟨k + 1, by omega, by go_num, HV⟩
            case measure => simp [intOf]; omega
      · have HE : Hid (true = K) := by
          show _ = _
          have e : s.data.toList.take k = s.data.toList := List.take_of_length_le (by simp; omega)
          have h2 := ha.out
          rw [e] at h2
          rw [HK.out, h2, Bool.true_and, decide_eq_true (by omega)]
        go_wp2
        go_ret
        exact ⟨ret_bool HE.out, rfl⟩
theorem implMomB (n : Int) (w : World) : Calls Tryz.prog 45 #[.int .i64 n] w fun e w' => e = .returned (.bool (momB n)) ∧ w = w' := by
  have HB : Hid (momB n = (decide (0 ≤ n) && decide (n ≤ 253402300799))) := rfl
  generalize momB n = b at HB ⊢
  by_cases h0 : 0 ≤ n
  · have HR : Hid (decide (n ≤ 253402300799) = b) := by show _ = _; rw [HB.out, decide_eq_true h0, Bool.true_and]
    go_enter Tryz.func45, Tryz.ntmps45
    go_wp2
    go_ret
    exact ⟨ret_bool HR.out, rfl⟩
  · have HR : Hid (false = b) := by show _ = _; rw [HB.out, decide_eq_false h0, Bool.false_and]
    go_enter Tryz.func45, Tryz.ntmps45
    go_wp2
    go_ret
    exact ⟨ret_bool HR.out, rfl⟩
set_option maxHeartbeats 4000000 in
theorem implObOk (o : Ob) (v u : Value) (w : World) (h : ObIn w v u o) :
    Calls Tryz.prog 19 #[obV o v u] w fun e w' => e = .returned (.bool (obB o)) ∧ Below w.heap.size w w' := by
  have HB : Hid (obB o = (keyO o.k && (fldsOk o.l && (rsOk o.r && (momB o.asked && (momB o.got && (decide (o.asked ≤ o.got) && (decide (0 ≤ o.ep) && decide (o.ep ≤ 100000))))))))) := rfl
  have j1 := fun W => implSol o.k W h.2.2
  have j2 := fun W (hW : Fits W v o.l) => implOk v o.l W hW.1 hW.2.1
  have j3 := fun W hW => implRsOk o.r u W hW
  have j4 := fun W => implMomB o.asked W
  have j5 := fun W => implMomB o.got W
  skip
  generalize obB o = R at HB ⊢
  generalize keyO o.k = b1 at HB j1
  generalize fldsOk o.l = b2 at HB j2
  generalize rsOk o.r = b3 at HB j3
  generalize momB o.asked = b4 at HB j4
  generalize momB o.got = b5 at HB j5
  obtain ⟨va, vc, rfl⟩ := h.1.form
  obtain ⟨ua, uc, rfl⟩ := h.2.1.1.form
  have Q0 : Hid (ObB (w.alloc (.cells #[.string o.k, .slice va o.l.length vc, .int .i64 o.r.s, .slice ua o.r.l.length uc, .string o.r.b, .int .i64 o.asked, .int .i64 o.got, .int .i64 o.ep] 28)) w.heap.size o (.slice va o.l.length vc) (.slice ua o.r.l.length uc)) := ObB.new w o _ _ _
  have B0 : Hid (Below w.heap.size w (w.alloc (.cells #[.string o.k, .slice va o.l.length vc, .int .i64 o.r.s, .slice ua o.r.l.length uc, .string o.r.b, .int .i64 o.asked, .int .i64 o.got, .int .i64 o.ep] 28))) := (Below.refl _ w).alloc (Nat.le_refl _) _
  have I0 : Hid (ObIn (w.alloc (.cells #[.string o.k, .slice va o.l.length vc, .int .i64 o.r.s, .slice ua o.r.l.length uc, .string o.r.b, .int .i64 o.asked, .int .i64 o.got, .int .i64 o.ep] 28)) (.slice va o.l.length vc) (.slice ua o.r.l.length uc) o) := h.kept B0.out
  clear h
  unfold obV
  unfold rsV at j3
  go_enter Tryz.func19, Tryz.ntmps19
  go_wp2_with fail
  refine (j1 _).mono ?_
  rintro e w1 ⟨rfl, rfl⟩
  clear j1
  cases b1 with
  | false =>
    have HR : Hid (false = R) := HB.out.symm
    go_wp2
    go_ret
    exact ⟨ret_bool HR.out, B0.out⟩
  | true =>
    go_wp2_with fail
    refine (j2 _ I0.out.1).mono ?_
    rintro e w2 ⟨rfl, hb2⟩
    have Q2 : Hid (ObB w2 w.heap.size o (.slice va o.l.length vc) (.slice ua o.r.l.length uc)) := Q0.out.next hb2
    have B2 : Hid (Below w.heap.size w w2) := past6 B0.out hb2
    have I2 : Hid (ObIn w2 (.slice va o.l.length vc) (.slice ua o.r.l.length uc) o) := I0.out.kept hb2
    clear hb2 Q0 B0 I0 j2
    cases b2 with
    | false =>
      have HR : Hid (false = R) := HB.out.symm
      go_wp2
      go_ret
      exact ⟨ret_bool HR.out, B2.out⟩
    | true =>
      have d2 := Q2.out.c2
      have d3 := Q2.out.c3
      have d4 := Q2.out.c4
      go_wp2_with fail
      refine (j3 _ I2.out.2.1).mono ?_
      rintro e w3 ⟨rfl, hb3⟩
      have Q3 : Hid (ObB w3 w.heap.size o (.slice va o.l.length vc) (.slice ua o.r.l.length uc)) := Q2.out.next hb3
      have B3 : Hid (Below w.heap.size w w3) := past6 B2.out hb3
      clear hb3 Q2 B2 I2 j3 d2 d3 d4
      have d5 := Q3.out.c5
      have d6 := Q3.out.c6
      have d7 := Q3.out.c7
      cases b3 with
      | false =>
        have HR : Hid (false = R) := HB.out.symm
        go_wp2
        go_ret
        exact ⟨ret_bool HR.out, B3.out⟩
      | true =>
        go_wp2_with fail
        refine (j4 _).mono ?_
        rintro e w4 ⟨rfl, rfl⟩
        clear j4
        cases b4 with
        | false =>
          have HR : Hid (false = R) := HB.out.symm
          go_wp2
          go_ret
          exact ⟨ret_bool HR.out, B3.out⟩
        | true =>
          go_wp2_with fail
          refine (j5 _).mono ?_
          rintro e w5 ⟨rfl, rfl⟩
          clear j5
          cases b5 with
          | false =>
            have HR : Hid (false = R) := HB.out.symm
            go_wp2
            go_ret
            exact ⟨ret_bool HR.out, B3.out⟩
          | true =>
            by_cases hag : o.asked ≤ o.got
            · have da : decide (o.asked ≤ o.got) = true := decide_eq_true hag
              by_cases h0 : 0 ≤ o.ep
              · have d0 : decide (0 ≤ o.ep) = true := decide_eq_true h0
                have HR : Hid (decide (o.ep ≤ 100000) = R) := by show _ = _; rw [HB.out, da, d0]; simp
                go_wp2
                go_ret
                exact ⟨ret_bool HR.out, B3.out⟩
              · have d0 : decide (0 ≤ o.ep) = false := decide_eq_false h0
                have HR : Hid (false = R) := by show _ = _; rw [HB.out, da, d0]; simp
                go_wp2
                go_ret
                exact ⟨ret_bool HR.out, B3.out⟩
            · have da : decide (o.asked ≤ o.got) = false := decide_eq_false hag
              have HR : Hid (false = R) := by show _ = _; rw [HB.out, da]; simp
              go_wp2
              go_ret
              exact ⟨ret_bool HR.out, B3.out⟩
end Go.Proofs.YtkaogmdhjcgcdaaGreatDoor
namespace Go.Proofs.YtkaogmdhjcgcdaaGreatDoor
open Go.RowKit Go.Sort
set_option linter.unusedVariables false
set_option linter.unusedSimpArgs false

theorem cell_lt10 {w : World} {b k : Nat} {v : Value} (h : w.cell? ⟨b, k, Option.none⟩ = some v) : b < w.heap.size := by
  refine Nat.lt_of_not_le fun hb => ?_
  have e : w.heap[b]? = none := Array.getElem?_eq_none hb
  simp [World.cell?, e] at h
theorem getF_few {l : List Fl} (n : ByteArray) (h : fldsOk l = true) : (getF l n).1.size ≤ 14000 := by
  have h1 := szL_flds h
  have h2 := (fldsOk_parts h).1
  have h3 := getF_bound n l (⟨#[]⟩, false)
  have h0 : (⟨#[]⟩ : ByteArray).size = 0 := rfl
  unfold getF
  simp only [h0] at h3
  omega
theorem implGetF (v : Value) (l : List Fl) (n : ByteArray) (w : World) (h : Fits w v l) (hok : fldsOk l = true) (hn : n.size ≤ 1048576) :
    Calls Tryz.prog 103 #[v, .string n] w fun e w' => e = .returned (getE (getF l n)) ∧ Below w.heap.size w w' := by
  have := implGet v l n w h.1 h.2.1 hn
  rw [← getA_yes n hok] at this
  exact this
set_option maxRecDepth 100000 in
set_option maxHeartbeats 2000000 in
theorem implCtl (v : Value) (l : List Fl) (w : World) (h : Fits w v l) (hok : fldsOk l = true) (m : Int) (hm : w.cell? ⟨0, 0, Option.none⟩ = some (.int .i64 m)) :
    Calls Tryz.prog 69 #[v] w fun e w' => e = .returned (ctV (ctlOf l)) ∧ Below w.heap.size w w' := by
  have hgz := getF_few nCC hok
  have hmz : 0 < w.heap.size := cell_lt10 hm
  have hg := fun W (hW : Fits W v l) => implGetF v l nCC W hW hok (by decide)
  have hr := fun W (hW : W.cell? ⟨0, 0, Option.none⟩ = some (.int .i64 m)) => implRdC (getF l nCC).1 m W (by omega) hW
  have HC : Hid (ctlOf l = rdCt (getF l nCC).1) := rfl
  unfold getE at hg
  generalize ctlOf l = C at HC ⊢
  rw [← HC.out] at hr
  generalize getF l nCC = g at hg hr
  obtain ⟨t, b⟩ := g
  simp only at hg hr
  obtain ⟨va, vc, rfl⟩ := h.form
  have b0 : Hid (Below w.heap.size w (w.alloc (.cells #[.int .i64 0, .int .i64 0, .int .i64 0, .bool false, .bool false, .bool false, .bool false] 50))) := (Below.refl _ w).alloc (Nat.le_refl _) _
  have Z0 : Hid (CtB (w.alloc (.cells #[.int .i64 0, .int .i64 0, .int .i64 0, .bool false, .bool false, .bool false, .bool false] 50)) w.heap.size ctZ) := CtB.born w ctZ 50
  have F0 : Hid (Fits (w.alloc (.cells #[.int .i64 0, .int .i64 0, .int .i64 0, .bool false, .bool false, .bool false, .bool false] 50)) (.slice va l.length vc) l) := h.kept b0.out
  have HM : Hid (w.cell? ⟨0, 0, Option.none⟩ = some (.int .i64 m)) := hm
  clear h HC hm hgz
  unfold nCC at hg
  go_enter Tryz.func69, Tryz.ntmps69
  go_wp2_with fail
  refine (hg _ F0.out).mono ?_
  rintro e w1 ⟨rfl, hb1⟩
  have Z1 : Hid (CtB w1 w.heap.size ctZ) := Z0.out.kept hb1
  have B1 : Hid (Below w.heap.size w w1) := past6 b0.out hb1
  clear hb1 Z0 F0 b0 hg
  go_wp2_with fail
  refine (hr _ ((B1.out.cell hmz).trans HM.out)).mono ?_
  rintro e w2 ⟨rfl, hb2⟩
  have Z2 : Hid (CtB w2 w.heap.size ctZ) := Z1.out.kept hb2
  have B2 : Hid (Below w.heap.size w w2) := past6 B1.out hb2
  clear hb2 Z1 B1 hr
  obtain ⟨xa, xs, xt, xns, xnc, xpr, xmu⟩ := C
  obtain ⟨z0, z1, z2, z3, z4, z5, z6⟩ := Z2.out.all
  have zf := Z2.out.fz
  have P1 := Z2.out.puts ⟨xa, xs, xt, xns, xnc, xpr, xmu⟩
  have HP : Hid _ := CtB.all P1
  have BP : Hid _ := putL_below (B := w.heap.size) (b := w.heap.size) (Nat.le_refl _) (ctE.c ⟨xa, xs, xt, xns, xnc, xpr, xmu⟩) 0 B2.out
  unfold ctZ at z0 z1 z2 z3 z4 z5 z6
  simp only at z0 z1 z2 z3 z4 z5 z6
  unfold ctV
  clear P1 Z2
  go_wp2
  obtain ⟨p0, p1, p2, p3, p4, p5, p6⟩ := HP.out
  rw [ctE_c] at p0 p1 p2 p3 p4 p5 p6
  have bp := BP.out
  rw [ctE_c] at bp
  simp only [putL, Nat.zero_add, Nat.reduceAdd] at p0 p1 p2 p3 p4 p5 p6 bp
  exact bodyPost_ret (v := ctV ⟨xa, xs, xt, xns, xnc, xpr, xmu⟩) (by unfold ctV; simp [results, Tryz.results69, go_sem, p0, p1, p2, p3, p4, p5, p6]) rfl ⟨rfl, bp⟩
set_option maxHeartbeats 1000000 in
theorem implTagL (u : Value) (l : List Fl) (w : World) (h : Fits w u l) (hok : fldsOk l = true) :
    Calls Tryz.prog 105 #[u] w fun e w' => e = .returned (.bool (tagOf l)) ∧ Below w.heap.size w w' := by
  have hgz := getF_few nET hok
  have hg := fun W (hW : Fits W u l) => implGetF u l nET W hW hok (by decide)
  have hr := fun W => implRd (getF l nET).1 W (by omega)
  have HT : Hid (tagOf l = (rdT (getF l nET).1).isSome) := rfl
  unfold getE at hg
  generalize tagOf l = T at HT ⊢
  generalize rdT (getF l nET).1 = q at HT hr
  generalize getF l nET = g at hg hr
  obtain ⟨t, b⟩ := g
  simp only at hg hr
  obtain ⟨ua, uc, rfl⟩ := h.form
  have F0 : Hid (Fits w (.slice ua l.length uc) l) := h
  clear h hgz
  unfold nET at hg
  go_enter Tryz.func105, Tryz.ntmps105
  go_wp2_with fail
  refine (hg _ F0.out).mono ?_
  rintro e w1 ⟨rfl, hb1⟩
  have B1 : Hid (Below w.heap.size w w1) := hb1
  clear hb1 F0 hg
  go_wp2_with fail
  refine (hr _).mono ?_
  rintro e w2 ⟨rfl, hb2⟩
  have B2 : Hid (Below w.heap.size w w2) := past6 B1.out hb2
  clear hb2 B1 hr
  cases q with
  | none =>
    have HR : Hid (false = T) := HT.out.symm
    have e0 : rdV Option.none = .tuple #[.agg #[.bool false, .string ⟨#[]⟩], .bool false] := rfl
    rw [e0]
    go_wp2
    go_ret
    exact ⟨ret_bool HR.out, B2.out.alloc B2.out.size _⟩
  | some x =>
    have HR : Hid (true = T) := HT.out.symm
    have e0 : rdV (some x) = .tuple #[.agg #[.bool x.w, .string x.t], .bool true] := rfl
    rw [e0]
    go_wp2
    go_ret
    exact ⟨ret_bool HR.out, B2.out.alloc B2.out.size _⟩
/-- What momentTold answers where the moment is n. -/
def tolV (n : Int) : Value := if 0 ≤ n then .tuple #[.int .i64 n, .bool true] else .tuple #[.int .i64 0, .bool false]
theorem tolV_y {n : Int} (h : 0 ≤ n) : tolV n = .tuple #[.int .i64 n, .bool true] := if_pos h
theorem tolV_n {n : Int} (h : ¬ 0 ≤ n) : tolV n = .tuple #[.int .i64 0, .bool false] := if_neg h
theorem momN_bd {y m d hh i s : Int} (h1 : Dd.okD y m d hh i s) : 0 ≤ Dd.momN y m d hh i s ∧ Dd.momN y m d hh i s ≤ 253402300799 := by
  have h3 := Dd.day_bd (Dd.dayOk_of (decide_eq_true h1 : Dd.okB y m d hh i s = true))
  have h4 : (0 ≤ hh ∧ hh ≤ 23) ∧ (0 ≤ i ∧ i ≤ 59) ∧ (0 ≤ s ∧ s ≤ 59) := h1.2.2.2
  unfold Dd.momN
  omega
theorem MomIs.read2 {t : ByteArray} {n : Int} (h : MomIs t n) : (∃ y m d hh i s : Int, Dd.okB y m d hh i s = true ∧ 0 ≤ n ∧ n = Dd.momN y m d hh i s ∧ ∀ v, Dd.ReadIs t v → v = .tuple #[.agg #[.int .i64 y, .int .i64 m, .int .i64 d, .int .i64 hh, .int .i64 i, .int .i64 s], .bool true]) ∨ (n = -1 ∧ ∀ v, Dd.ReadIs t v → v = .tuple #[.agg #[.int .i64 0, .int .i64 0, .int .i64 0, .int .i64 0, .int .i64 0, .int .i64 0], .bool false]) := by
  rcases h with ⟨y, m, d, hh, i, s, h1, h2, h3⟩ | ⟨h1, h2⟩
  · exact .inl ⟨y, m, d, hh, i, s, decide_eq_true h1, by rw [h3]; exact (momN_bd h1).1, h3, fun v hv => hv.one (.inl ⟨y, m, d, hh, i, s, h1, h2, rfl⟩)⟩
  · exact .inr ⟨h2, fun v hv => hv.one (.inr ⟨h1, rfl⟩)⟩
set_option maxHeartbeats 1000000 in
theorem implMomT (v : Value) (l : List Fl) (name : ByteArray) (n : Int) (w : World) (h : Fits w v l) (hok : fldsOk l = true) (hn : FldMom l name n) (hz : name.size ≤ 1000) (ht : Dd.Tab w) :
    Calls Tryz.prog 91 #[v, .string name] w fun e w' => e = .returned (tolV n) ∧ Below w.heap.size w w' := by
  have hgz := getF_few name hok
  have hg := fun W (hW : Fits W v l) => implGetF v l name W hW hok (by omega)
  have hr := fun W (hW : Dd.Tab W) => Dd.implRead (getF l name).1 W hW (by unfold maxLen; omega)
  have HM := MomIs.read2 (show MomIs (getF l name).1 n from hn)
  unfold getE at hg
  clear hn
  generalize getF l name = g at hg hr HM
  obtain ⟨t, b⟩ := g
  simp only at hg hr HM
  obtain ⟨va, vc, rfl⟩ := h.form
  have F0 : Hid (Fits w (.slice va l.length vc) l) := h
  have T0 : Hid (Dd.Tab w) := ht
  generalize hV : tolV n = V
  have HV : Hid (tolV n = V) := hV
  clear h ht hgz hV
  go_enter Tryz.func91, Tryz.ntmps91
  go_wp2_with fail
  refine (hg _ F0.out).mono ?_
  rintro e w1 ⟨rfl, hb1⟩
  have B1 : Hid (Below w.heap.size w w1) := hb1
  clear hb1 hg
  go_wp2_with fail
  refine (hr _ (T0.out.low B1.out)).mono ?_
  rintro e w2 ⟨⟨vv, rfl, hv⟩, hb2⟩
  have B2 : Hid (Below w.heap.size w w2) := past6 B1.out hb2.low
  clear hb2 B1 hr
  rcases HM with ⟨y, m, d, hh, i, s, hk, h0, hn, hone⟩ | ⟨hn, hone⟩
  · obtain rfl := hone _ hv
    have hmo := fun W => Dd.implMom y m d hh i s W
    have e1 : Dd.momV y m d hh i s = Dd.momN y m d hh i s := by unfold Dd.momV; rw [if_pos hk]
    rw [e1, ← hn] at hmo
    have HN : Hid (.tuple #[.int .i64 n, .bool true] = V) := by show _ = _; rw [← HV.out, tolV_y h0]
    clear hone hv hk e1 hn h0
    go_wp2_with (go_at_call 119; refine (hmo _).mono ?_; rintro e w3 ⟨rfl, hg3⟩; have HG : Hid _ := hg3.low; clear hg3)
    go_ret2
    exact ⟨congrArg Ending.returned HN.out, past6 (B2.out.alloc B2.out.size _) HG.out⟩
  · obtain rfl := hone _ hv
    have HN : Hid (.tuple #[.int .i64 0, .bool false] = V) := by show _ = _; rw [← HV.out, tolV_n (by omega)]
    clear hone hv hn
    go_wp2
    go_ret2
    exact ⟨congrArg Ending.returned HN.out, B2.out.alloc B2.out.size _⟩
theorem implStat (s : Int) (w : World) : Calls Tryz.prog 68 #[.int .i64 s] w fun e w' => e = .returned (.bool (statB s)) ∧ w = w' := by
  have HS : Hid (statB s = (decide (s = 200) || (decide (s = 203) || (decide (s = 204) || (decide (s = 300) || (decide (s = 301) || (decide (s = 404) || decide (s = 410)))))))) := rfl
  generalize statB s = R at HS ⊢
  go_enter Tryz.func68, Tryz.ntmps68
  by_cases h1 : s = 200
  · have k1 : (s == 200) = true := by simpa using h1
    have HR : Hid (true = R) := by show _ = _; rw [HS.out, decide_eq_true h1]; simp
    clear h1
    go_wp2
    go_ret
    exact ⟨ret_bool HR.out, rfl⟩
  have k1 : (s == 200) = false := by simpa using h1
  by_cases h2 : s = 203
  · have k2 : (s == 203) = true := by simpa using h2
    have HR : Hid (true = R) := by show _ = _; rw [HS.out, decide_eq_true h2]; simp
    clear h1 h2
    go_wp2
    go_ret
    exact ⟨ret_bool HR.out, rfl⟩
  have k2 : (s == 203) = false := by simpa using h2
  by_cases h3 : s = 204
  · have k3 : (s == 204) = true := by simpa using h3
    have HR : Hid (true = R) := by show _ = _; rw [HS.out, decide_eq_true h3]; simp
    clear h1 h2 h3
    go_wp2
    go_ret
    exact ⟨ret_bool HR.out, rfl⟩
  have k3 : (s == 204) = false := by simpa using h3
  by_cases h4 : s = 300
  · have k4 : (s == 300) = true := by simpa using h4
    have HR : Hid (true = R) := by show _ = _; rw [HS.out, decide_eq_true h4]; simp
    clear h1 h2 h3 h4
    go_wp2
    go_ret
    exact ⟨ret_bool HR.out, rfl⟩
  have k4 : (s == 300) = false := by simpa using h4
  by_cases h5 : s = 301
  · have k5 : (s == 301) = true := by simpa using h5
    have HR : Hid (true = R) := by show _ = _; rw [HS.out, decide_eq_true h5]; simp
    clear h1 h2 h3 h4 h5
    go_wp2
    go_ret
    exact ⟨ret_bool HR.out, rfl⟩
  have k5 : (s == 301) = false := by simpa using h5
  by_cases h6 : s = 404
  · have k6 : (s == 404) = true := by simpa using h6
    have HR : Hid (true = R) := by show _ = _; rw [HS.out, decide_eq_true h6]; simp
    clear h1 h2 h3 h4 h5 h6
    go_wp2
    go_ret
    exact ⟨ret_bool HR.out, rfl⟩
  have k6 : (s == 404) = false := by simpa using h6
  by_cases h7 : s = 410
  · have k7 : (s == 410) = true := by simpa using h7
    have HR : Hid (true = R) := by show _ = _; rw [HS.out, decide_eq_true h7]; simp
    clear h1 h2 h3 h4 h5 h6 h7
    go_wp2
    go_ret
    exact ⟨ret_bool HR.out, rfl⟩
  have k7 : (s == 410) = false := by simpa using h7
  have HR : Hid (false = R) := by show _ = _; rw [HS.out, decide_eq_false h1, decide_eq_false h2, decide_eq_false h3, decide_eq_false h4, decide_eq_false h5, decide_eq_false h6, decide_eq_false h7]; rfl
  clear h1 h2 h3 h4 h5 h6 h7
  go_wp2
  go_ret
  exact ⟨ret_bool HR.out, rfl⟩
theorem tld_y {a : Int} (h : 0 ≤ a) : (a != -1) = true := by rw [bne_iff_ne]; omega
theorem tld_n {a : Int} (h : -1 ≤ a) (h2 : ¬ 0 ≤ a) : (a != -1) = false := by
  have : a = -1 := by omega
  subst this
  rfl
set_option maxHeartbeats 1000000 in
theorem implUse (v : Value) (l : List Fl) (c : Ct) (w : World) (h : Fits w v l) (hok : fldsOk l = true) (hs : -1 ≤ c.s) (ha : -1 ≤ c.a) :
    Calls Tryz.prog 70 #[v, ctV c] w fun e w' => e = .returned (.bool (decide (0 ≤ c.s) || (decide (0 ≤ c.a) || ((getF l nEX).2 || tagOf l)))) ∧ Below w.heap.size w w' := by
  have hg := fun W (hW : Fits W v l) => implGetF v l nEX W hW hok (by decide)
  have ht := fun W (hW : Fits W v l) => implTagL v l W hW hok
  unfold getE at hg
  generalize getF l nEX = g at hg ⊢
  obtain ⟨t, ex⟩ := g
  simp only at hg ⊢
  generalize tagOf l = T at ht ⊢
  obtain ⟨va, vc, rfl⟩ := h.form
  have C0 : Hid (CtB (w.alloc (.cells #[.int .i64 c.a, .int .i64 c.s, .int .i64 c.t, .bool c.ns, .bool c.nc, .bool c.pr, .bool c.mu] 50)) w.heap.size c) := CtB.born w c 50
  have B0 : Hid (Below w.heap.size w (w.alloc (.cells #[.int .i64 c.a, .int .i64 c.s, .int .i64 c.t, .bool c.ns, .bool c.nc, .bool c.pr, .bool c.mu] 50))) := (Below.refl _ w).alloc (Nat.le_refl _) _
  have F0 : Hid (Fits (w.alloc (.cells #[.int .i64 c.a, .int .i64 c.s, .int .i64 c.t, .bool c.ns, .bool c.nc, .bool c.pr, .bool c.mu] 50)) (.slice va l.length vc) l) := h.kept B0.out
  clear h
  generalize hR : (decide (0 ≤ c.s) || (decide (0 ≤ c.a) || (ex || T))) = R
  have HR : Hid ((decide (0 ≤ c.s) || (decide (0 ≤ c.a) || (ex || T))) = R) := hR
  clear hR
  unfold nEX at hg
  unfold ctV
  go_enter Tryz.func70, Tryz.ntmps70
  go_wp2_with fail
  refine (hg _ F0.out).mono ?_
  rintro e w1 ⟨rfl, hb1⟩
  have C1 : Hid (CtB w1 w.heap.size c) := C0.out.kept hb1
  have B1 : Hid (Below w.heap.size w w1) := past6 B0.out hb1
  have F1 : Hid (Fits w1 (.slice va l.length vc) l) := F0.out.kept hb1
  clear hb1 hg C0 B0 F0
  obtain ⟨a0, a1, a2, a3, a4, a5, a6⟩ := C1.out.all
  by_cases h1 : 0 ≤ c.s
  · have k1 := tld_y h1
    have HX : Hid (true = R) := by show _ = _; rw [← HR.out, decide_eq_true h1]; rfl
    clear h1
    go_wp2
    go_ret
    exact ⟨ret_bool HX.out, B1.out⟩
  have k1 := tld_n hs h1
  by_cases h2 : 0 ≤ c.a
  · have k2 := tld_y h2
    have HX : Hid (true = R) := by show _ = _; rw [← HR.out, decide_eq_true h2, decide_eq_false h1]; rfl
    clear h1 h2
    go_wp2
    go_ret
    exact ⟨ret_bool HX.out, B1.out⟩
  have k2 := tld_n ha h2
  have HX : Hid ((ex || T) = R) := by show _ = _; rw [← HR.out, decide_eq_false h2, decide_eq_false h1]; rfl
  clear h1 h2 HR
  cases ex with
  | true =>
    have HY : Hid (true = R) := HX.out
    go_wp2
    go_ret
    exact ⟨ret_bool HY.out, B1.out⟩
  | false =>
    have HY : Hid (T = R) := HX.out
    go_wp2_with (go_at_call 105; refine (ht _ F1.out).mono ?_; rintro e w2 ⟨rfl, hb2⟩; have HB : Hid _ := hb2; clear hb2)
    go_ret
    exact ⟨ret_bool HY.out, past6 B1.out HB.out⟩
set_option maxHeartbeats 1000000 in
theorem implAll (v : Value) (l : List Fl) (c : Ct) (w : World) (h : Fits w v l) (hok : fldsOk l = true) (hs : -1 ≤ c.s) :
    Calls Tryz.prog 71 #[v, ctV c] w fun e w' => e = .returned (.bool (!(getF l nAU).2 || (decide (0 ≤ c.s) || c.mu))) ∧ Below w.heap.size w w' := by
  have hg := fun W (hW : Fits W v l) => implGetF v l nAU W hW hok (by decide)
  unfold getE at hg
  generalize getF l nAU = g at hg ⊢
  obtain ⟨t, sec⟩ := g
  simp only at hg ⊢
  obtain ⟨va, vc, rfl⟩ := h.form
  have C0 : Hid (CtB (w.alloc (.cells #[.int .i64 c.a, .int .i64 c.s, .int .i64 c.t, .bool c.ns, .bool c.nc, .bool c.pr, .bool c.mu] 50)) w.heap.size c) := CtB.born w c 50
  have B0 : Hid (Below w.heap.size w (w.alloc (.cells #[.int .i64 c.a, .int .i64 c.s, .int .i64 c.t, .bool c.ns, .bool c.nc, .bool c.pr, .bool c.mu] 50))) := (Below.refl _ w).alloc (Nat.le_refl _) _
  have F0 : Hid (Fits (w.alloc (.cells #[.int .i64 c.a, .int .i64 c.s, .int .i64 c.t, .bool c.ns, .bool c.nc, .bool c.pr, .bool c.mu] 50)) (.slice va l.length vc) l) := h.kept B0.out
  clear h
  generalize hR : (!sec || (decide (0 ≤ c.s) || c.mu)) = R
  have HR : Hid ((!sec || (decide (0 ≤ c.s) || c.mu)) = R) := hR
  clear hR
  unfold nAU at hg
  unfold ctV
  go_enter Tryz.func71, Tryz.ntmps71
  go_wp2_with fail
  refine (hg _ F0.out).mono ?_
  rintro e w1 ⟨rfl, hb1⟩
  have C1 : Hid (CtB w1 w.heap.size c) := C0.out.kept hb1
  have B1 : Hid (Below w.heap.size w w1) := past6 B0.out hb1
  clear hb1 hg C0 B0 F0
  obtain ⟨a0, a1, a2, a3, a4, a5, a6⟩ := C1.out.all
  cases sec with
  | false =>
    have HX : Hid (true = R) := HR.out
    go_wp2
    go_ret
    exact ⟨ret_bool HX.out, B1.out⟩
  | true =>
    by_cases h1 : 0 ≤ c.s
    · have k1 := tld_y h1
      have HX : Hid (true = R) := by show _ = _; rw [← HR.out, decide_eq_true h1]; rfl
      clear h1
      go_wp2
      go_ret
      exact ⟨ret_bool HX.out, B1.out⟩
    · have k1 := tld_n hs h1
      have HX : Hid (c.mu = R) := by show _ = _; rw [← HR.out, decide_eq_false h1]; rfl
      clear h1
      go_wp2
      go_ret
      exact ⟨ret_bool HX.out, B1.out⟩
end Go.Proofs.YtkaogmdhjcgcdaaGreatDoor
namespace Go.Proofs.YtkaogmdhjcgcdaaGreatDoor
open Go.RowKit Go.Sort
set_option linter.unusedVariables false
set_option linter.unusedSimpArgs false

set_option maxRecDepth 100000 in
set_option maxHeartbeats 4000000 in
theorem implSto (m : ByteArray) (v0 : Value) (l : List Fl) (r : Rs) (u : Value) (w : World) (hm : m.size ≤ 1048576) (hl : Fits w v0 l) (h : RsIn w u r) (mx : Int) (hx : w.cell? ⟨0, 0, Option.none⟩ = some (.int .i64 mx)) :
    Calls Tryz.prog 22 #[.string m, v0, rsV r u] w fun en w' => en = .returned (.bool (stoV m l r)) ∧ Below w.heap.size w w' := by
  have hxz : 0 < w.heap.size := cell_lt10 hx
  have HX : Hid (w.cell? ⟨0, 0, Option.none⟩ = some (.int .i64 mx)) := hx
  have j1 := fun W (hW : Fits W v0 l) => implOk v0 l W hW.1 hW.2.1
  have j2 := fun W hW => implRsOk r u W hW
  have j3 : Hid (fldsOk l = true → ∀ W, Fits W v0 l → Below w.heap.size w W → Calls Tryz.prog 69 #[v0] W fun e w' => e = .returned (ctV (ctlOf l)) ∧ Below W.heap.size W w') := fun hk W hW hB => implCtl v0 l W hW hk mx ((hB.cell hxz).trans HX.out)
  have j4 : Hid (rsOk r = true → ∀ W, RsIn W u r → Below w.heap.size w W → Calls Tryz.prog 69 #[u] W fun e w' => e = .returned (ctV (ctlOf r.l)) ∧ Below W.heap.size W w') := fun hk W hW hB => implCtl u r.l W hW.1 (rsOk_flds hk) mx ((hB.cell hxz).trans HX.out)
  have cb := ctB_iff.1 (ctlOf_ok r.l)
  have cb1 := (secB_iff.1 cb.1).1
  have cb2 := (secB_iff.1 cb.2.1).1
  have j5 : Hid (rsOk r = true → ∀ W, RsIn W u r → Calls Tryz.prog 70 #[u, ctV (ctlOf r.l)] W fun e w' => e = .returned (.bool (decide (0 ≤ (ctlOf r.l).s) || (decide (0 ≤ (ctlOf r.l).a) || ((getF r.l nEX).2 || tagOf r.l)))) ∧ Below W.heap.size W w') := fun hk W hW => implUse u r.l _ W hW.1 (rsOk_flds hk) cb2 cb1
  have j6 : Hid (fldsOk l = true → ∀ W, Fits W v0 l → Calls Tryz.prog 71 #[v0, ctV (ctlOf r.l)] W fun e w' => e = .returned (.bool (!(getF l nAU).2 || (decide (0 ≤ (ctlOf r.l).s) || (ctlOf r.l).mu))) ∧ Below W.heap.size W w') := fun hk W hW => implAll v0 l _ W hW hk cb2
  have j7 := fun W => implStat r.s W
  have HO : Hid (¬ (m = ⟨#[71, 69, 84]⟩ ∧ fldsOk l = true ∧ rsOk r = true) → stoV m l r = false) := @stoV_out m l r
  have HI : Hid (m = ⟨#[71, 69, 84]⟩ → fldsOk l = true → rsOk r = true → stoV m l r = (statB r.s && (!(ctlOf l).ns && (!(ctlOf r.l).ns && (!(ctlOf r.l).pr && ((decide (0 ≤ (ctlOf r.l).s) || (decide (0 ≤ (ctlOf r.l).a) || ((getF r.l nEX).2 || tagOf r.l))) && (!(getF l nAU).2 || (decide (0 ≤ (ctlOf r.l).s) || (ctlOf r.l).mu)))))))) := @stoV_in m l r
  clear cb cb1 cb2 hx
  generalize (decide (0 ≤ (ctlOf r.l).s) || (decide (0 ≤ (ctlOf r.l).a) || ((getF r.l nEX).2 || tagOf r.l))) = U at j5 HI
  generalize (!(getF l nAU).2 || (decide (0 ≤ (ctlOf r.l).s) || (ctlOf r.l).mu)) = V at j6 HI
  generalize stoV m l r = R at HO HI ⊢
  generalize ctlOf l = C at HI j3
  generalize ctlOf r.l = D at HI j4 j5 j6
  generalize fldsOk l = b0 at HO HI j1 j3 j6
  generalize rsOk r = b1 at HO HI j2 j4 j5
  generalize statB r.s = S at HI j7
  obtain ⟨ca, cs, ct, cns, cnc, cpr, cmu⟩ := C
  obtain ⟨da, ds, dt, dns, dnc, dpr, dmu⟩ := D
  simp only at HI
  obtain ⟨za, zc, rfl⟩ := hl.form
  obtain ⟨ua, uc, rfl⟩ := h.1.form
  have Q0 : Hid (RsB (w.alloc (.cells #[.int .i64 r.s, .slice ua r.l.length uc, .string r.b] 26)) w.heap.size r (.slice ua r.l.length uc)) := RsB.new w r _ _
  have B0 : Hid (Below w.heap.size w (w.alloc (.cells #[.int .i64 r.s, .slice ua r.l.length uc, .string r.b] 26))) := (Below.refl _ w).alloc (Nat.le_refl _) _
  have I0 : Hid (RsIn (w.alloc (.cells #[.int .i64 r.s, .slice ua r.l.length uc, .string r.b] 26)) (.slice ua r.l.length uc) r) := h.kept B0.out
  have F0 : Hid (Fits (w.alloc (.cells #[.int .i64 r.s, .slice ua r.l.length uc, .string r.b] 26)) (.slice za l.length zc) l) := hl.kept B0.out
  clear h hl
  unfold ctV at j3 j4 j5 j6
  unfold rsV at j2 ⊢
  by_cases hg : m = ⟨#[71, 69, 84]⟩
  · have HI' : Hid (b0 = true → b1 = true → R = (S && (!cns && (!dns && (!dpr && (U && V)))))) := HI.out hg
    have HO' : Hid (¬ (b0 = true ∧ b1 = true) → R = false) := fun h => HO.out (fun k => h k.2)
    subst hg
    clear HI HO
    go_enter Tryz.func22, Tryz.ntmps22
    go_wp2_with fail
    refine (j1 _ F0.out).mono ?_
    rintro e w1 ⟨rfl, hb1⟩
    have Q1 : Hid (RsB w1 w.heap.size r (.slice ua r.l.length uc)) := Q0.out.next hb1
    have B1 : Hid (Below w.heap.size w w1) := past6 B0.out hb1
    have I1 : Hid (RsIn w1 (.slice ua r.l.length uc) r) := I0.out.kept hb1
    have F1 : Hid (Fits w1 (.slice za l.length zc) l) := F0.out.kept hb1
    clear hb1 Q0 B0 I0 F0
    clear j1
    cases b0 with
    | false =>
      have HR : Hid (false = R) := (HO'.out (fun h => by cases h.1)).symm
      go_wp2
      go_ret
      exact ⟨ret_bool HR.out, B1.out⟩
    | true =>
      obtain ⟨y0, y1, y2, yf, yh⟩ := Q1.out
      go_wp2_with fail
      refine (j2 _ I1.out).mono ?_
      rintro e w2 ⟨rfl, hb2⟩
      have Q2 : Hid (RsB w2 w.heap.size r (.slice ua r.l.length uc)) := Q1.out.next hb2
      have B2 : Hid (Below w.heap.size w w2) := past6 B1.out hb2
      have I2 : Hid (RsIn w2 (.slice ua r.l.length uc) r) := I1.out.kept hb2
      have F2 : Hid (Fits w2 (.slice za l.length zc) l) := F1.out.kept hb2
      clear hb2 Q1 B1 I1 F1
      clear j2 y0 y1 y2 yf yh
      obtain ⟨y0, y1, y2, yf, yh⟩ := Q2.out
      cases b1 with
      | false =>
        have HR : Hid (false = R) := (HO'.out (fun h => by cases h.2)).symm
        go_wp2
        go_ret
        exact ⟨ret_bool HR.out, B2.out⟩
      | true =>
        have HZ : Hid (R = (S && (!cns && (!dns && (!dpr && (U && V)))))) := HI'.out (by simp) (by simp)
        clear HI' HO'
        go_wp2_with fail
        refine (j7 _).mono ?_
        rintro e w3 ⟨rfl, rfl⟩
        clear j7
        cases S with
        | false =>
          have HR : Hid (false = R) := HZ.out.symm
          go_wp2
          go_ret
          exact ⟨ret_bool HR.out, B2.out⟩
        | true =>
          go_wp2_with fail
          refine (j4.out (by simp) _ I2.out B2.out).mono ?_
          rintro e w4 ⟨rfl, hb4⟩
          have Q4 : Hid (RsB w4 w.heap.size r (.slice ua r.l.length uc)) := Q2.out.next hb4
          have B4 : Hid (Below w.heap.size w w4) := past6 B2.out hb4
          have I4 : Hid (RsIn w4 (.slice ua r.l.length uc) r) := I2.out.kept hb4
          have F4 : Hid (Fits w4 (.slice za l.length zc) l) := F2.out.kept hb4
          clear hb4 Q2 B2 I2 F2
          clear j4 y0 y1 y2 yf yh
          have D4 : Hid (CtB (w4.alloc (.cells #[.int .i64 da, .int .i64 ds, .int .i64 dt, .bool dns, .bool dnc, .bool dpr, .bool dmu] 50)) w4.heap.size ⟨da, ds, dt, dns, dnc, dpr, dmu⟩) := CtB.born w4 ⟨da, ds, dt, dns, dnc, dpr, dmu⟩ 50
          have bb := (Below.refl w4.heap.size w4).alloc (Nat.le_refl _) (.cells #[.int .i64 da, .int .i64 ds, .int .i64 dt, .bool dns, .bool dnc, .bool dpr, .bool dmu] 50)
          have Q5 : Hid (RsB (w4.alloc (.cells #[.int .i64 da, .int .i64 ds, .int .i64 dt, .bool dns, .bool dnc, .bool dpr, .bool dmu] 50)) w.heap.size r (.slice ua r.l.length uc)) := Q4.out.next bb
          have B5 : Hid (Below w.heap.size w (w4.alloc (.cells #[.int .i64 da, .int .i64 ds, .int .i64 dt, .bool dns, .bool dnc, .bool dpr, .bool dmu] 50))) := past6 B4.out bb
          have I5 : Hid (RsIn (w4.alloc (.cells #[.int .i64 da, .int .i64 ds, .int .i64 dt, .bool dns, .bool dnc, .bool dpr, .bool dmu] 50)) (.slice ua r.l.length uc) r) := I4.out.kept bb
          have F5 : Hid (Fits (w4.alloc (.cells #[.int .i64 da, .int .i64 ds, .int .i64 dt, .bool dns, .bool dnc, .bool dpr, .bool dmu] 50)) (.slice za l.length zc) l) := F4.out.kept bb
          clear bb Q4 B4 I4 F4
          cases dns with
          | true =>
            have HR : Hid (false = R) := by show _ = _; rw [HZ.out]; simp
            go_wp2
            go_ret
            exact ⟨ret_bool HR.out, B5.out⟩
          | false =>
            cases dpr with
            | true =>
              have HR : Hid (false = R) := by show _ = _; rw [HZ.out]; simp
              go_wp2
              go_ret
              exact ⟨ret_bool HR.out, B5.out⟩
            | false =>
              have hfd : ∀ W : World, (Instr.field 50 (.agg #[.int .i64 ca, .int .i64 cs, .int .i64 ct, .bool cns, .bool cnc, .bool cpr, .bool cmu]) 3).run Tryz.prog W = .ok (.bool cns) W := fun _ => by kernel_rfl
              go_wp2_with fail
              refine (j3.out (by simp) _ F5.out B5.out).mono ?_
              rintro e w6 ⟨rfl, hb6⟩
              have D6 : Hid (CtB w6 w4.heap.size ⟨da, ds, dt, false, dnc, false, dmu⟩) := D4.out.kept hb6
              have Q6 : Hid (RsB w6 w.heap.size r (.slice ua r.l.length uc)) := Q5.out.next hb6
              have B6 : Hid (Below w.heap.size w w6) := past6 B5.out hb6
              have I6 : Hid (RsIn w6 (.slice ua r.l.length uc) r) := I5.out.kept hb6
              have F6 : Hid (Fits w6 (.slice za l.length zc) l) := F5.out.kept hb6
              clear hb6 Q5 B5 I5 F5
              clear j3 D4
              obtain ⟨y0, y1, y2, yf, yh⟩ := Q6.out
              obtain ⟨d0, d1, d2, d3, d4, d5, d6⟩ := D6.out.all
              simp only at d0 d1 d2 d3 d4 d5 d6
              cases cns with
              | true =>
                have HR : Hid (false = R) := by show _ = _; rw [HZ.out]; simp
                go_wp2
                go_ret
                exact ⟨ret_bool HR.out, B6.out⟩
              | false =>
                go_wp2_with fail
                refine (j5.out (by simp) _ I6.out).mono ?_
                rintro e w7 ⟨rfl, hb7⟩
                have D7 : Hid (CtB w7 w4.heap.size ⟨da, ds, dt, false, dnc, false, dmu⟩) := D6.out.kept hb7
                have Q7 : Hid (RsB w7 w.heap.size r (.slice ua r.l.length uc)) := Q6.out.next hb7
                have B7 : Hid (Below w.heap.size w w7) := past6 B6.out hb7
                have I7 : Hid (RsIn w7 (.slice ua r.l.length uc) r) := I6.out.kept hb7
                have F7 : Hid (Fits w7 (.slice za l.length zc) l) := F6.out.kept hb7
                clear hb7 Q6 B6 I6 F6
                clear j5 D6 y0 y1 y2 yf yh d0 d1 d2 d3 d4 d5 d6 hfd
                obtain ⟨y0, y1, y2, yf, yh⟩ := Q7.out
                obtain ⟨d0, d1, d2, d3, d4, d5, d6⟩ := D7.out.all
                simp only at d0 d1 d2 d3 d4 d5 d6
                cases U with
                | false =>
                  have HR : Hid (false = R) := by show _ = _; rw [HZ.out]; simp
                  go_wp2
                  go_ret
                  exact ⟨ret_bool HR.out, B7.out⟩
                | true =>
                  have HR : Hid (V = R) := by show _ = _; rw [HZ.out]; simp
                  go_wp2_with fail
                  refine (j6.out (by simp) _ F7.out).mono ?_
                  rintro e w8 ⟨rfl, hb8⟩
                  have B8 : Hid (Below w.heap.size w w8) := past6 B7.out hb8
                  clear hb8 j6 y0 y1 y2 yf yh d0 d1 d2 d3 d4 d5 d6
                  go_wp2
                  go_ret
                  exact ⟨ret_bool HR.out, B8.out⟩
  · have HR : Hid (false = R) := (HO.out (fun h => hg h.1)).symm
    obtain ⟨g1, g2⟩ := notGet hg
    clear hg HI HO
    go_enter Tryz.func22, Tryz.ntmps22
    go_wp2
    go_ret
    exact ⟨ret_bool HR.out, B0.out⟩
end Go.Proofs.YtkaogmdhjcgcdaaGreatDoor
namespace Go.Proofs.YtkaogmdhjcgcdaaGreatDoor
open Go.RowKit Go.Sort
set_option linter.unusedVariables false
set_option linter.unusedSimpArgs false

/-- What the program asks of the world: the cell of MaxLen, the table of powers. -/
def XP (w : World) : Prop := (∃ m, w.cell? ⟨0, 0, Option.none⟩ = some (.int .i64 m)) ∧ Dd.Tab w
theorem XP.kept {w w' : World} (h : XP w) (hb : Below w.heap.size w w') : XP w' := by
  obtain ⟨⟨m, hm⟩, ht⟩ := h
  exact ⟨⟨m, (hb.cell (cell_lt10 hm)).trans hm⟩, ht.low hb⟩
/-- An object whose response has right fields. -/
def KIn (w : World) (u : Value) (o : Ob) : Prop := RsIn w u o.r ∧ fldsOk o.r.l = true ∧ XP w
theorem KIn.kept {w w' : World} {u : Value} {o : Ob} (h : KIn w u o) (hb : Below w.heap.size w w') : KIn w' u o := ⟨h.1.kept hb, h.2.1, h.2.2.kept hb⟩
theorem asU (v : Value) (w : World) : (Instr.typeAssert (.iface 116 v) 76 142 true).run Tryz.prog w = .ok (.tuple #[.nilIface, .bool false]) w := run_typeAssert_lacksB Tryz.underlying142 (by kernel_rfl) (by kernel_rfl) v _ w
theorem asD (v : Value) (w : World) : (Instr.typeAssert (.iface 119 v) 76 142 true).run Tryz.prog w = .ok (.tuple #[.iface 119 v, .bool true]) w := run_typeAssert_hasB Tryz.underlying142 (by kernel_rfl) v _ w
theorem mCtlU (o : Ob) (v u : Value) (w : World) : (method 334 116 (.agg #[.string o.k, v, .int .i64 o.r.s, u, .string o.r.b, .int .i64 o.asked, .int .i64 o.got, .int .i64 o.ep]) "loop.example/g00207/impl.control").run Tryz.prog w = .ok (236, .agg #[.string o.k, v, .int .i64 o.r.s, u, .string o.r.b, .int .i64 o.asked, .int .i64 o.got, .int .i64 o.ep]) w := by kernel_rfl
theorem mCtlD (o : Ob) (v u : Value) (d : Int) (w : World) : (method 334 119 (.agg #[.string o.k, v, .int .i64 o.r.s, u, .string o.r.b, .int .i64 o.asked, .int .i64 o.got, .int .i64 o.ep, .int .i64 d]) "loop.example/g00207/impl.control").run Tryz.prog w = .ok (236, .agg #[.string o.k, v, .int .i64 o.r.s, u, .string o.r.b, .int .i64 o.asked, .int .i64 o.got, .int .i64 o.ep]) w := by kernel_rfl
theorem mExpU (o : Ob) (v u : Value) (w : World) : (method 334 116 (.agg #[.string o.k, v, .int .i64 o.r.s, u, .string o.r.b, .int .i64 o.asked, .int .i64 o.got, .int .i64 o.ep]) "loop.example/g00207/impl.expires").run Tryz.prog w = .ok (237, .agg #[.string o.k, v, .int .i64 o.r.s, u, .string o.r.b, .int .i64 o.asked, .int .i64 o.got, .int .i64 o.ep]) w := by kernel_rfl
theorem mExpD (o : Ob) (v u : Value) (d : Int) (w : World) : (method 334 119 (.agg #[.string o.k, v, .int .i64 o.r.s, u, .string o.r.b, .int .i64 o.asked, .int .i64 o.got, .int .i64 o.ep, .int .i64 d]) "loop.example/g00207/impl.expires").run Tryz.prog w = .ok (237, .agg #[.string o.k, v, .int .i64 o.r.s, u, .string o.r.b, .int .i64 o.asked, .int .i64 o.got, .int .i64 o.ep]) w := by kernel_rfl
theorem mAgeU (o : Ob) (v u : Value) (w : World) : (method 334 116 (.agg #[.string o.k, v, .int .i64 o.r.s, u, .string o.r.b, .int .i64 o.asked, .int .i64 o.got, .int .i64 o.ep]) "loop.example/g00207/impl.toldAge").run Tryz.prog w = .ok (240, .agg #[.string o.k, v, .int .i64 o.r.s, u, .string o.r.b, .int .i64 o.asked, .int .i64 o.got, .int .i64 o.ep]) w := by kernel_rfl
theorem mAgeD (o : Ob) (v u : Value) (d : Int) (w : World) : (method 334 119 (.agg #[.string o.k, v, .int .i64 o.r.s, u, .string o.r.b, .int .i64 o.asked, .int .i64 o.got, .int .i64 o.ep, .int .i64 d]) "loop.example/g00207/impl.toldAge").run Tryz.prog w = .ok (240, .agg #[.string o.k, v, .int .i64 o.r.s, u, .string o.r.b, .int .i64 o.asked, .int .i64 o.got, .int .i64 o.ep]) w := by kernel_rfl
theorem mWaiU (o : Ob) (v u : Value) (w : World) : (method 334 116 (.agg #[.string o.k, v, .int .i64 o.r.s, u, .string o.r.b, .int .i64 o.asked, .int .i64 o.got, .int .i64 o.ep]) "loop.example/g00207/impl.waited").run Tryz.prog w = .ok (241, .agg #[.string o.k, v, .int .i64 o.r.s, u, .string o.r.b, .int .i64 o.asked, .int .i64 o.got, .int .i64 o.ep]) w := by kernel_rfl
theorem mWaiD (o : Ob) (v u : Value) (d : Int) (w : World) : (method 334 119 (.agg #[.string o.k, v, .int .i64 o.r.s, u, .string o.r.b, .int .i64 o.asked, .int .i64 o.got, .int .i64 o.ep, .int .i64 d]) "loop.example/g00207/impl.waited").run Tryz.prog w = .ok (241, .agg #[.string o.k, v, .int .i64 o.r.s, u, .string o.r.b, .int .i64 o.asked, .int .i64 o.got, .int .i64 o.ep]) w := by kernel_rfl
theorem mGotU (o : Ob) (v u : Value) (w : World) : (method 334 116 (.agg #[.string o.k, v, .int .i64 o.r.s, u, .string o.r.b, .int .i64 o.asked, .int .i64 o.got, .int .i64 o.ep]) "loop.example/g00207/impl.got").run Tryz.prog w = .ok (238, .agg #[.string o.k, v, .int .i64 o.r.s, u, .string o.r.b, .int .i64 o.asked, .int .i64 o.got, .int .i64 o.ep]) w := by kernel_rfl
theorem mGotD (o : Ob) (v u : Value) (d : Int) (w : World) : (method 334 119 (.agg #[.string o.k, v, .int .i64 o.r.s, u, .string o.r.b, .int .i64 o.asked, .int .i64 o.got, .int .i64 o.ep, .int .i64 d]) "loop.example/g00207/impl.got").run Tryz.prog w = .ok (238, .agg #[.string o.k, v, .int .i64 o.r.s, u, .string o.r.b, .int .i64 o.asked, .int .i64 o.got, .int .i64 o.ep]) w := by kernel_rfl
theorem mDatD (o : Ob) (v u : Value) (d : Int) (w : World) : (method 334 119 (.agg #[.string o.k, v, .int .i64 o.r.s, u, .string o.r.b, .int .i64 o.asked, .int .i64 o.got, .int .i64 o.ep, .int .i64 d]) "loop.example/g00207/impl.date").run Tryz.prog w = .ok (242, .agg #[.string o.k, v, .int .i64 o.r.s, u, .string o.r.b, .int .i64 o.asked, .int .i64 o.got, .int .i64 o.ep, .int .i64 d]) w := by kernel_rfl
set_option maxRecDepth 100000 in
set_option maxHeartbeats 2000000 in
theorem mthCtl (o : Ob) (va ua : Option Addr) (vn vc uc : Nat) (w : World) (h : KIn w (.slice ua o.r.l.length uc) o) :
    Calls Tryz.prog 236 #[.agg #[.string o.k, .slice va vn vc, .int .i64 o.r.s, .slice ua o.r.l.length uc, .string o.r.b, .int .i64 o.asked, .int .i64 o.got, .int .i64 o.ep]] w fun e w' => e = .returned (ctV (ctlOf o.r.l)) ∧ Below w.heap.size w w' := by
  have hr := fun W (hW : KIn W (.slice ua o.r.l.length uc) o) => hW.2.2.1.elim fun mx hm => implCtl (.slice ua o.r.l.length uc) o.r.l W hW.1.1 hW.2.1 mx hm
  generalize ctlOf o.r.l = C at hr ⊢
  have Q0 : Hid (ObB ((w.alloc (.cells #[.string o.k, .slice va vn vc, .int .i64 o.r.s, .slice ua o.r.l.length uc, .string o.r.b, .int .i64 o.asked, .int .i64 o.got, .int .i64 o.ep] 116)).alloc (.cells #[.int .i64 0, .int .i64 0, .int .i64 0, .bool false, .bool false, .bool false, .bool false] 50)) w.heap.size o (.slice va vn vc) (.slice ua o.r.l.length uc)) := (ObB.new w o (.slice va vn vc) (.slice ua o.r.l.length uc) 116).alloc _
  have Z0 : Hid (CtB ((w.alloc (.cells #[.string o.k, .slice va vn vc, .int .i64 o.r.s, .slice ua o.r.l.length uc, .string o.r.b, .int .i64 o.asked, .int .i64 o.got, .int .i64 o.ep] 116)).alloc (.cells #[.int .i64 0, .int .i64 0, .int .i64 0, .bool false, .bool false, .bool false, .bool false] 50)) (w.heap.size + 1) ctZ) := by
    have := CtB.born (w.alloc (.cells #[.string o.k, .slice va vn vc, .int .i64 o.r.s, .slice ua o.r.l.length uc, .string o.r.b, .int .i64 o.asked, .int .i64 o.got, .int .i64 o.ep] 116)) ctZ 50
    simp only [World.size_alloc] at this
    exact this
  have b0 : Hid (Below w.heap.size w ((w.alloc (.cells #[.string o.k, .slice va vn vc, .int .i64 o.r.s, .slice ua o.r.l.length uc, .string o.r.b, .int .i64 o.asked, .int .i64 o.got, .int .i64 o.ep] 116)).alloc (.cells #[.int .i64 0, .int .i64 0, .int .i64 0, .bool false, .bool false, .bool false, .bool false] 50))) := ((Below.refl _ w).alloc (Nat.le_refl _) _).alloc (by simp) _
  have F0 : Hid (KIn ((w.alloc (.cells #[.string o.k, .slice va vn vc, .int .i64 o.r.s, .slice ua o.r.l.length uc, .string o.r.b, .int .i64 o.asked, .int .i64 o.got, .int .i64 o.ep] 116)).alloc (.cells #[.int .i64 0, .int .i64 0, .int .i64 0, .bool false, .bool false, .bool false, .bool false] 50)) (.slice ua o.r.l.length uc) o) := h.kept b0.out
  clear h
  obtain ⟨q0, q1, q2, q3, q4, q5, q6, q7, qf, qh⟩ := Q0.out
  go_enter Tryz.func236, Tryz.ntmps236
  go_wp2_with fail
  refine (hr _ F0.out).mono ?_
  rintro e w2 ⟨rfl, hb2⟩
  have Z2 : Hid (CtB w2 (w.heap.size + 1) ctZ) := Z0.out.kept hb2
  have B2 : Hid (Below w.heap.size w w2) := past6 b0.out hb2
  clear hb2 Z0 b0 F0 hr Q0 q0 q1 q2 q3 q4 q5 q6 q7 qf qh
  obtain ⟨xa, xs, xt, xns, xnc, xpr, xmu⟩ := C
  obtain ⟨z0, z1, z2, z3, z4, z5, z6⟩ := Z2.out.all
  have zf := Z2.out.fz
  have P1 := Z2.out.puts ⟨xa, xs, xt, xns, xnc, xpr, xmu⟩
  have HP : Hid _ := CtB.all P1
  have BP : Hid _ := putL_below (B := w.heap.size) (b := w.heap.size + 1) (by omega) (ctE.c ⟨xa, xs, xt, xns, xnc, xpr, xmu⟩) 0 B2.out
  unfold ctZ at z0 z1 z2 z3 z4 z5 z6
  simp only at z0 z1 z2 z3 z4 z5 z6
  unfold ctV
  clear P1 Z2
  go_wp2
  obtain ⟨p0, p1, p2, p3, p4, p5, p6⟩ := HP.out
  rw [ctE_c] at p0 p1 p2 p3 p4 p5 p6
  have bp := BP.out
  rw [ctE_c] at bp
  simp only [putL, Nat.zero_add, Nat.reduceAdd] at p0 p1 p2 p3 p4 p5 p6 bp
  exact bodyPost_ret (v := ctV ⟨xa, xs, xt, xns, xnc, xpr, xmu⟩) (by unfold ctV; simp [results, Tryz.results236, go_sem, p0, p1, p2, p3, p4, p5, p6]) rfl ⟨rfl, bp⟩
set_option maxHeartbeats 1000000 in
theorem mthExp (o : Ob) (va ua : Option Addr) (vn vc uc : Nat) (en : Int) (w : World) (h : KIn w (.slice ua o.r.l.length uc) o) (hn : FldMom o.r.l nEX en) :
    Calls Tryz.prog 237 #[.agg #[.string o.k, .slice va vn vc, .int .i64 o.r.s, .slice ua o.r.l.length uc, .string o.r.b, .int .i64 o.asked, .int .i64 o.got, .int .i64 o.ep]] w fun e w' => e = .returned (tolV en) ∧ Below w.heap.size w w' := by
  have hr := fun W (hW : KIn W (.slice ua o.r.l.length uc) o) => implMomT (.slice ua o.r.l.length uc) o.r.l nEX en W hW.1.1 hW.2.1 hn (by decide) hW.2.2.2
  have Q0 : Hid (ObB (w.alloc (.cells #[.string o.k, .slice va vn vc, .int .i64 o.r.s, .slice ua o.r.l.length uc, .string o.r.b, .int .i64 o.asked, .int .i64 o.got, .int .i64 o.ep] 116)) w.heap.size o (.slice va vn vc) (.slice ua o.r.l.length uc)) := ObB.new w o (.slice va vn vc) (.slice ua o.r.l.length uc) 116
  have b0 : Hid (Below w.heap.size w (w.alloc (.cells #[.string o.k, .slice va vn vc, .int .i64 o.r.s, .slice ua o.r.l.length uc, .string o.r.b, .int .i64 o.asked, .int .i64 o.got, .int .i64 o.ep] 116))) := (Below.refl _ w).alloc (Nat.le_refl _) _
  have F0 : Hid (KIn (w.alloc (.cells #[.string o.k, .slice va vn vc, .int .i64 o.r.s, .slice ua o.r.l.length uc, .string o.r.b, .int .i64 o.asked, .int .i64 o.got, .int .i64 o.ep] 116)) (.slice ua o.r.l.length uc) o) := h.kept b0.out
  clear h hn
  obtain ⟨q0, q1, q2, q3, q4, q5, q6, q7, qf, qh⟩ := Q0.out
  unfold nEX at hr
  generalize hV : tolV en = V at hr ⊢
  have HV : Hid (tolV en = V) := hV
  clear hV
  go_enter Tryz.func237, Tryz.ntmps237
  go_wp2_with fail
  refine (hr _ F0.out).mono ?_
  rintro e w2 ⟨rfl, hb2⟩
  have B2 : Hid (Below w.heap.size w w2) := past6 b0.out hb2
  clear hb2 hr b0 F0 Q0 q0 q1 q2 q3 q4 q5 q6 q7 qf qh
  by_cases h0 : 0 ≤ en
  · have HN : Hid (.tuple #[.int .i64 en, .bool true] = V) := by show _ = _; rw [← HV.out, tolV_y h0]
    rw [← HN.out]
    clear h0
    go_wp2
    go_ret2
    exact ⟨congrArg Ending.returned HN.out, B2.out⟩
  · have HN : Hid (.tuple #[.int .i64 0, .bool false] = V) := by show _ = _; rw [← HV.out, tolV_n h0]
    rw [← HN.out]
    clear h0
    go_wp2
    go_ret2
    exact ⟨congrArg Ending.returned HN.out, B2.out⟩
set_option maxHeartbeats 1000000 in
theorem mthAge (o : Ob) (va ua : Option Addr) (vn vc uc : Nat) (w : World) (h : KIn w (.slice ua o.r.l.length uc) o) :
    Calls Tryz.prog 240 #[.agg #[.string o.k, .slice va vn vc, .int .i64 o.r.s, .slice ua o.r.l.length uc, .string o.r.b, .int .i64 o.asked, .int .i64 o.got, .int .i64 o.ep]] w fun e w' => e = .returned (.int .i64 (numV 10 15 (getF o.r.l nAG).1)) ∧ Below w.heap.size w w' := by
  have hz := getF_few nAG h.2.1
  have hg := fun W (hW : KIn W (.slice ua o.r.l.length uc) o) => implGetF (.slice ua o.r.l.length uc) o.r.l nAG W hW.1.1 hW.2.1 (by decide)
  have hr := fun W => Dd.digNought (getF o.r.l nAG).1 W (by unfold maxLen; omega)
  have Q0 : Hid (ObB (w.alloc (.cells #[.string o.k, .slice va vn vc, .int .i64 o.r.s, .slice ua o.r.l.length uc, .string o.r.b, .int .i64 o.asked, .int .i64 o.got, .int .i64 o.ep] 116)) w.heap.size o (.slice va vn vc) (.slice ua o.r.l.length uc)) := ObB.new w o (.slice va vn vc) (.slice ua o.r.l.length uc) 116
  have b0 : Hid (Below w.heap.size w (w.alloc (.cells #[.string o.k, .slice va vn vc, .int .i64 o.r.s, .slice ua o.r.l.length uc, .string o.r.b, .int .i64 o.asked, .int .i64 o.got, .int .i64 o.ep] 116))) := (Below.refl _ w).alloc (Nat.le_refl _) _
  have F0 : Hid (KIn (w.alloc (.cells #[.string o.k, .slice va vn vc, .int .i64 o.r.s, .slice ua o.r.l.length uc, .string o.r.b, .int .i64 o.asked, .int .i64 o.got, .int .i64 o.ep] 116)) (.slice ua o.r.l.length uc) o) := h.kept b0.out
  clear h hz
  obtain ⟨q0, q1, q2, q3, q4, q5, q6, q7, qf, qh⟩ := Q0.out
  unfold getE at hg
  generalize getF o.r.l nAG = g at hg hr ⊢
  obtain ⟨t, b⟩ := g
  simp only at hg hr ⊢
  generalize numV 10 15 t = A at hr ⊢
  unfold nAG at hg
  go_enter Tryz.func240, Tryz.ntmps240
  go_wp2_with fail
  refine (hg _ F0.out).mono ?_
  rintro e w2 ⟨rfl, hb2⟩
  have B2 : Hid (Below w.heap.size w w2) := past6 b0.out hb2
  clear hb2 hg b0 F0 Q0 q0 q1 q2 q3 q4 q5 q6 q7 qf qh
  go_wp2_with fail
  refine (hr _).mono ?_
  rintro e w3 ⟨rfl, hb3⟩
  have B3 : Hid (Below w.heap.size w w3) := past6 B2.out hb3.low
  clear hb3 hr B2
  go_wp2
  go_ret
  exact ⟨rfl, B3.out⟩
theorem mthGot (o : Ob) (va ua : Option Addr) (vn vc uc : Nat) (w : World) :
    Calls Tryz.prog 238 #[.agg #[.string o.k, .slice va vn vc, .int .i64 o.r.s, .slice ua o.r.l.length uc, .string o.r.b, .int .i64 o.asked, .int .i64 o.got, .int .i64 o.ep]] w fun e w' => e = .returned (.int .i64 o.got) ∧ Below w.heap.size w w' := by
  have Q0 : Hid (ObB (w.alloc (.cells #[.string o.k, .slice va vn vc, .int .i64 o.r.s, .slice ua o.r.l.length uc, .string o.r.b, .int .i64 o.asked, .int .i64 o.got, .int .i64 o.ep] 116)) w.heap.size o (.slice va vn vc) (.slice ua o.r.l.length uc)) := ObB.new w o (.slice va vn vc) (.slice ua o.r.l.length uc) 116
  have b0 : Hid (Below w.heap.size w (w.alloc (.cells #[.string o.k, .slice va vn vc, .int .i64 o.r.s, .slice ua o.r.l.length uc, .string o.r.b, .int .i64 o.asked, .int .i64 o.got, .int .i64 o.ep] 116))) := (Below.refl _ w).alloc (Nat.le_refl _) _
  obtain ⟨q0, q1, q2, q3, q4, q5, q6, q7, qf, qh⟩ := Q0.out
  go_enter Tryz.func238, Tryz.ntmps238
  go_wp2
  go_ret
  exact ⟨rfl, b0.out⟩
theorem mthWai (o : Ob) (va ua : Option Addr) (vn vc uc : Nat) (w : World) (h1 : 0 ≤ o.asked) (h2 : o.asked ≤ o.got) (h3 : o.got ≤ 253402300799) :
    Calls Tryz.prog 241 #[.agg #[.string o.k, .slice va vn vc, .int .i64 o.r.s, .slice ua o.r.l.length uc, .string o.r.b, .int .i64 o.asked, .int .i64 o.got, .int .i64 o.ep]] w fun e w' => e = .returned (.int .i64 (o.got - o.asked)) ∧ Below w.heap.size w w' := by
  have Q0 : Hid (ObB (w.alloc (.cells #[.string o.k, .slice va vn vc, .int .i64 o.r.s, .slice ua o.r.l.length uc, .string o.r.b, .int .i64 o.asked, .int .i64 o.got, .int .i64 o.ep] 116)) w.heap.size o (.slice va vn vc) (.slice ua o.r.l.length uc)) := ObB.new w o (.slice va vn vc) (.slice ua o.r.l.length uc) 116
  have b0 : Hid (Below w.heap.size w (w.alloc (.cells #[.string o.k, .slice va vn vc, .int .i64 o.r.s, .slice ua o.r.l.length uc, .string o.r.b, .int .i64 o.asked, .int .i64 o.got, .int .i64 o.ep] 116))) := (Below.refl _ w).alloc (Nat.le_refl _) _
  obtain ⟨q0, q1, q2, q3, q4, q5, q6, q7, qf, qh⟩ := Q0.out
  have ew : IntKind.i64.wrap (o.got - o.asked) = o.got - o.asked := by rw [IntKind.wrap_i64]; omega
  go_enter Tryz.func241, Tryz.ntmps241
  go_wp2
  go_ret
  exact ⟨rfl, b0.out⟩
theorem mthDat (o : Ob) (va ua : Option Addr) (vn vc uc : Nat) (d : Int) (w : World) :
    Calls Tryz.prog 242 #[.agg #[.string o.k, .slice va vn vc, .int .i64 o.r.s, .slice ua o.r.l.length uc, .string o.r.b, .int .i64 o.asked, .int .i64 o.got, .int .i64 o.ep, .int .i64 d]] w fun e w' => e = .returned (.int .i64 d) ∧ Below w.heap.size w w' := by
  have b0 : Hid (Below w.heap.size w (w.alloc (.cells #[.string o.k, .slice va vn vc, .int .i64 o.r.s, .slice ua o.r.l.length uc, .string o.r.b, .int .i64 o.asked, .int .i64 o.got, .int .i64 o.ep, .int .i64 d] 119))) := (Below.refl _ w).alloc (Nat.le_refl _) _
  go_enter Tryz.func242, Tryz.ntmps242
  go_wp2
  go_ret
  exact ⟨rfl, b0.out⟩
/-- The object behind the interface, its date being d. -/
def kV (o : Ob) (va ua : Option Addr) (vn vc uc : Nat) (d : Int) : Value := if 0 ≤ d then .iface 119 (.agg #[.string o.k, .slice va vn vc, .int .i64 o.r.s, .slice ua o.r.l.length uc, .string o.r.b, .int .i64 o.asked, .int .i64 o.got, .int .i64 o.ep, .int .i64 d]) else .iface 116 (.agg #[.string o.k, .slice va vn vc, .int .i64 o.r.s, .slice ua o.r.l.length uc, .string o.r.b, .int .i64 o.asked, .int .i64 o.got, .int .i64 o.ep])
theorem kV_y (o : Ob) (va ua : Option Addr) (vn vc uc : Nat) {d : Int} (h : 0 ≤ d) : kV o va ua vn vc uc d = .iface 119 (.agg #[.string o.k, .slice va vn vc, .int .i64 o.r.s, .slice ua o.r.l.length uc, .string o.r.b, .int .i64 o.asked, .int .i64 o.got, .int .i64 o.ep, .int .i64 d]) := if_pos h
theorem kV_n (o : Ob) (va ua : Option Addr) (vn vc uc : Nat) {d : Int} (h : ¬ 0 ≤ d) : kV o va ua vn vc uc d = .iface 116 (.agg #[.string o.k, .slice va vn vc, .int .i64 o.r.s, .slice ua o.r.l.length uc, .string o.r.b, .int .i64 o.asked, .int .i64 o.got, .int .i64 o.ep]) := if_neg h
set_option maxRecDepth 100000 in
set_option maxHeartbeats 2000000 in
theorem implKept (o : Ob) (va ua : Option Addr) (vn vc uc : Nat) (d : Int) (w : World) (h : KIn w (.slice ua o.r.l.length uc) o) (hn : FldMom o.r.l nDA d) :
    Calls Tryz.prog 47 #[.agg #[.string o.k, .slice va vn vc, .int .i64 o.r.s, .slice ua o.r.l.length uc, .string o.r.b, .int .i64 o.asked, .int .i64 o.got, .int .i64 o.ep]] w fun e w' => e = .returned (kV o va ua vn vc uc d) ∧ Below w.heap.size w w' := by
  have hr := fun W (hW : KIn W (.slice ua o.r.l.length uc) o) => implMomT (.slice ua o.r.l.length uc) o.r.l nDA d W hW.1.1 hW.2.1 hn (by decide) hW.2.2.2
  have Q0 : Hid (ObB ((w.alloc (.cells #[.string o.k, .slice va vn vc, .int .i64 o.r.s, .slice ua o.r.l.length uc, .string o.r.b, .int .i64 o.asked, .int .i64 o.got, .int .i64 o.ep] 28)).alloc (.cells #[.string o.k, .slice va vn vc, .int .i64 o.r.s, .slice ua o.r.l.length uc, .string o.r.b, .int .i64 o.asked, .int .i64 o.got, .int .i64 o.ep] 116)) w.heap.size o (.slice va vn vc) (.slice ua o.r.l.length uc)) := (ObB.new w o (.slice va vn vc) (.slice ua o.r.l.length uc) 28).alloc _
  have R0 : Hid (ObB ((w.alloc (.cells #[.string o.k, .slice va vn vc, .int .i64 o.r.s, .slice ua o.r.l.length uc, .string o.r.b, .int .i64 o.asked, .int .i64 o.got, .int .i64 o.ep] 28)).alloc (.cells #[.string o.k, .slice va vn vc, .int .i64 o.r.s, .slice ua o.r.l.length uc, .string o.r.b, .int .i64 o.asked, .int .i64 o.got, .int .i64 o.ep] 116)) (w.heap.size + 1) o (.slice va vn vc) (.slice ua o.r.l.length uc)) := by
    have := ObB.new (w.alloc (.cells #[.string o.k, .slice va vn vc, .int .i64 o.r.s, .slice ua o.r.l.length uc, .string o.r.b, .int .i64 o.asked, .int .i64 o.got, .int .i64 o.ep] 28)) o (.slice va vn vc) (.slice ua o.r.l.length uc) 116
    simp only [World.size_alloc] at this
    exact this
  have b0 : Hid (Below w.heap.size w ((w.alloc (.cells #[.string o.k, .slice va vn vc, .int .i64 o.r.s, .slice ua o.r.l.length uc, .string o.r.b, .int .i64 o.asked, .int .i64 o.got, .int .i64 o.ep] 28)).alloc (.cells #[.string o.k, .slice va vn vc, .int .i64 o.r.s, .slice ua o.r.l.length uc, .string o.r.b, .int .i64 o.asked, .int .i64 o.got, .int .i64 o.ep] 116))) := ((Below.refl _ w).alloc (Nat.le_refl _) _).alloc (by simp) _
  have F0 : Hid (KIn ((w.alloc (.cells #[.string o.k, .slice va vn vc, .int .i64 o.r.s, .slice ua o.r.l.length uc, .string o.r.b, .int .i64 o.asked, .int .i64 o.got, .int .i64 o.ep] 28)).alloc (.cells #[.string o.k, .slice va vn vc, .int .i64 o.r.s, .slice ua o.r.l.length uc, .string o.r.b, .int .i64 o.asked, .int .i64 o.got, .int .i64 o.ep] 116)) (.slice ua o.r.l.length uc) o) := h.kept b0.out
  clear h hn
  unfold nDA at hr
  generalize hV : kV o va ua vn vc uc d = V
  have HV : Hid (kV o va ua vn vc uc d = V) := hV
  clear hV
  obtain ⟨q0, q1, q2, q3, q4, q5, q6, q7, qf, qh⟩ := Q0.out
  go_enter Tryz.func47, Tryz.ntmps47
  go_wp2_with fail
  refine (hr _ F0.out).mono ?_
  rintro e w2 ⟨rfl, hb2⟩
  have B2 : Hid (Below w.heap.size w w2) := past6 b0.out hb2
  have R2 : Hid (ObB w2 (w.heap.size + 1) o (.slice va vn vc) (.slice ua o.r.l.length uc)) := R0.out.next hb2
  clear hb2 hr b0 F0 Q0 q0 q1 q2 q3 q4 q5 q6 q7 qf qh R0
  obtain ⟨q0, q1, q2, q3, q4, q5, q6, q7, qf, qh⟩ := R2.out
  by_cases h0 : 0 ≤ d
  · have HN : Hid (.iface 119 (.agg #[.string o.k, .slice va vn vc, .int .i64 o.r.s, .slice ua o.r.l.length uc, .string o.r.b, .int .i64 o.asked, .int .i64 o.got, .int .i64 o.ep, .int .i64 d]) = V) := by show _ = _; rw [← HV.out, kV_y _ _ _ _ _ _ h0]
    rw [tolV_y h0]
    clear h0
    go_wp2
    go_ret
    exact ⟨congrArg Ending.returned HN.out, B2.out⟩
  · have HN : Hid (.iface 116 (.agg #[.string o.k, .slice va vn vc, .int .i64 o.r.s, .slice ua o.r.l.length uc, .string o.r.b, .int .i64 o.asked, .int .i64 o.got, .int .i64 o.ep]) = V) := by show _ = _; rw [← HV.out, kV_n _ _ _ _ _ _ h0]
    rw [tolV_n h0]
    clear h0
    go_wp2
    go_ret
    exact ⟨congrArg Ending.returned HN.out, B2.out⟩
set_option maxRecDepth 100000 in
set_option maxHeartbeats 2000000 in
theorem implSince (o : Ob) (va ua : Option Addr) (vn vc uc : Nat) (d n : Int) (w : World) (hd : d ≤ 253402300799) (h0 : 0 ≤ n) (h1 : n ≤ 253402300799) :
    Calls Tryz.prog 90 #[kV o va ua vn vc uc d, .int .i64 n] w fun e w' => e = .returned (.int .i64 (if 0 ≤ d then maxI 0 (n - d) else 0)) ∧ Below w.heap.size w w' := by
  by_cases hk : 0 ≤ d
  · rw [kV_y _ _ _ _ _ _ hk, if_pos hk]
    have h3 := asD
    have h4 := mDatD o (.slice va vn vc) (.slice ua o.r.l.length uc) d
    have hr := fun W => mthDat o va ua vn vc uc d W
    have ew : IntKind.i64.wrap (n - d) = n - d := by rw [IntKind.wrap_i64]; omega
    have HM : Hid (maxI 0 (n - d) = max (n - d) 0) := by show _ = _; unfold maxI; split <;> omega
    generalize maxI 0 (n - d) = M at HM ⊢
    go_enter Tryz.func90, Tryz.ntmps90
    go_wp2_with fail
    refine (hr _).mono ?_
    rintro e w2 ⟨rfl, hb2⟩
    have B2 : Hid (Below w.heap.size w w2) := hb2
    clear hb2 hr h3 h4
    go_wp2
    all_goals go_ret
    all_goals exact ⟨ret_i10 (by have := HM.out; omega), B2.out⟩
  · rw [kV_n _ _ _ _ _ _ hk, if_neg hk]
    have h3 := asU
    go_enter Tryz.func90, Tryz.ntmps90
    go_wp2
    go_ret
    exact ⟨rfl, Below.refl _ _⟩
end Go.Proofs.YtkaogmdhjcgcdaaGreatDoor
